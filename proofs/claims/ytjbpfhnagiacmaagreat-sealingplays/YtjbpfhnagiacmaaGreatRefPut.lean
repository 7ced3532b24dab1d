/-
  The reference's 'put': a row more, with a fresh handle.
-/
import Derived.Test.YtjbpfhnagiacmaaGreatRefIs
import Derived.Deep.RegionLaw
import Derived.Maps.AppendAt
import Derived.Deep.DeepCutAuto
namespace Go.Proofs.YtjbpfhnagiacmaaGreat
set_option linter.unusedVariables false
open Go.RowKit Go.Maps
theorem step_append_own {P : Program} {ops : Array Oper} {o : Oper} {a : Act} {w : World} {K : Act → World → Prop} {Q : Exit → Act → World → Prop} {E : Prop}
    (hg : o.guard = none) (s x : Operand) (t : TypeId) (hop : o.op = Op.call { callee := Callee.builtin Builtin.append, args := #[s, x], argTypes := #[t, t] })
    (base : Nat) (e : TypeId) (i : TypeInfo) (z : Value) (size bytes : Nat) (h1 : P.underlying t = some (.slice e)) (h2 : P.info? e = some i) (h3 : i.zero = some z) (h4 : i.size = size) (h5 : i.bytes = bytes) (h6 : z.cells.size = size) (h7 : 0 < size)
    (v : Value) (n : Nat) (xs : List Value) (hs : a.eval s = v) (hown : w.ownsRow base e size v n xs)
    (ad : Addr) (m c : Nat) (news : List Value) (hx : a.eval x = .slice (some ad) m c) (hn : news.length = m * size) (hc : ∀ j u, news[j]? = some u → w.cell? (ad.add j) = some u) (h1c : ∀ u ∈ news, u.oneCell' = true)
    (b1 : n + m ≤ maxLen) (b2 : (n + m) * bytes ≤ 140737488355328) (hbase : base ≤ w.heap.size)
    (hK : ∀ v' w', w'.ownsRow base e size v' (n + m) (xs ++ news) → w.grownBy w' v.ownBlock → (v'.ownBlock = v.ownBlock ∨ v'.ownBlock = some w.heap.size) → K (a.put o.dst v') w') :
    if Region.wanted o (yielded ops a.tmps) = true then Oper.wp P o a w K Q else E := by
  have hw : Region.wanted o (yielded ops a.tmps) = true := by simp [Region.wanted, hg]
  rw [if_pos hw]
  obtain ⟨v', w', hrun, r1, r2, _, r3⟩ := run_append_own_at (P := P) w base t o.type e i z size bytes h1 h2 h3 h4 h5 h6 h7 v n xs hown ad m c news hn hc h1c b1 b2 hbase
  unfold Oper.wp
  simp [execOp, hop, resolve, invoke, builtin, hs, hx, hrun, Result.andThen]
  exact hK v' w' r1 r2 r3
theorem info86 : (Tryz.prog.info? 112).map (fun i => (i.zero, i.size, i.bytes)) = some (some noRow, 6, 80) := by kernel_rfl
def Fits (us ds0 : List Int) (h : Int) (ds : List Int) : Prop := U64 h ∧ (∀ d ∈ ds, U64 d) ∧ freshOf us ds0 = (if h = 0 ∨ h ∈ us then freshOf us ds else (h, ds))
theorem fits_start {us ds : List Int} (hd : ∀ d ∈ ds, U64 d) : Fits us ds 0 ds := ⟨by unfold U64; omega, hd, by rw [if_pos (.inl rfl)]⟩
theorem Fits.step {us ds0 : List Int} {h d : Int} {ds : List Int} (hf : Fits us ds0 h (d :: ds)) (hb : h = 0 ∨ h ∈ us) : Fits us ds0 d ds := by
  obtain ⟨h1, h2, h3⟩ := hf
  refine ⟨h2 d (by simp), fun x hx => h2 x (List.mem_cons_of_mem _ hx), ?_⟩
  rw [h3, if_pos hb]
  rfl
theorem idx_mem {S : St} {R : List RRow} (hr : S.rows = R.map fun q => (q.h, q.x)) (g : Int) : (g ∈ S.us ∧ ∃ i : Nat, idx R g = i ∧ i < R.length) ∨ (g ∉ S.us ∧ idx R g = -1) := by
  have hm := at_isSome S g
  rcases idx_at hr g with ⟨h1, h2⟩ | ⟨i, q, h1, h2, h3, h4⟩
  · rw [h2] at hm
    exact .inr ⟨(fun e => by rw [decide_eq_true e] at hm; cases hm), h1⟩
  · rw [h4] at hm
    exact .inl ⟨of_decide_eq_true hm.symm, i, h3, (List.getElem?_eq_some_iff.1 h1).1⟩
theorem RO.fsep {W : WS} {w : World} {r : Nat} {fr : List Nat} {S : St} {R : List RRow} {dv lv : Value} (h : RO W w r fr S R dv lv) : ∀ k ∈ fr, W.wd.heap.size ≤ k ∧ k ∉ W.sb := fun k hk => ⟨h.new k hk, fun e => (h.sep k e).1 hk⟩
theorem RO.rsep {W : WS} {w : World} {r : Nat} {fr : List Nat} {S : St} {R : List RRow} {dv lv : Value} (h : RO W w r fr S R dv lv) : ∀ k ∈ [r], W.wd.heap.size ≤ k ∧ k ∉ W.sb := fun k hk => by
  simp at hk
  subst hk
  exact h.fsep _ h.foot
theorem RO.setDraws {W : WS} {w : World} {r : Nat} {fr : List Nat} {S : St} {R : List RRow} {dv lv dv' : Value} {ds : List Int} (h : RO W w r fr S R dv lv) (hr : RdU W.wd dv' ds) : RO W (w.setCell ⟨r, 0, none⟩ dv') r fr ⟨ds, S.rows⟩ R dv' lv := by
  have hg := grown_setCell w r 0 dv'
  have hb : ∀ k ∈ fr, k ≠ r → (w.setCell ⟨r, 0, none⟩ dv').heap[k]? = w.heap[k]? := fun k hk hn => hg.block k (h.room k hk) (fun e => hn (by simpa using e))
  exact ⟨h.rows, h.blk.set 0 dv', h.foot, h.new, fun k hk => by simpa using h.room k hk, h.bel.trans ((Turn.of_grown (ft := [r]) hg (by simp)).below h.bel.size (fun k hk => by simp at hk; rw [hk]; exact h.new r h.foot)), hr, ownsRow_block h.own (fun k hk => hb k (h.apart k hk).1 (h.apart k hk).2), h.apart, (fun q hq => ⟨(h.vals q hq).1.turn (Turn.of_grown (ft := [r]) hg (by simp)) (h.rsep), (h.vals q hq).2.turn (Turn.of_grown (ft := [r]) hg (by simp)) (h.rsep)⟩), (fun k hk => ⟨(h.sep k hk).1, by simpa using (h.sep k hk).2⟩), ⟨hr.1, h.good.rows, h.good.apart⟩, h.few⟩
def drawsLeft (w : World) (r : Nat) : Nat := match w.cell? ⟨r, 0, none⟩ with
  | some (.slice _ n _) => n
  | _ => 0
theorem RO.drawsLeft {W : WS} {w : World} {r : Nat} {fr : List Nat} {S : St} {R : List RRow} {dv lv : Value} (h : RO W w r fr S R dv lv) : drawsLeft w r = S.draws.length := by
  have c0 := h.blk.cell 0 _ rfl
  obtain ⟨_, a, cap, rfl, _⟩ := h.draws
  unfold YtjbpfhnagiacmaaGreat.drawsLeft
  rw [c0]
theorem RO.head {W : WS} {w : World} {r : Nat} {fr : List Nat} {S : St} {R : List RRow} {dv lv : Value} (h : RO W w r fr S R dv lv) {d : Int} {ds : List Int} (hd : S.draws = d :: ds) :
    ∃ b off cap, dv = .slice (some ⟨b, off, none⟩) (ds.length + 1) cap ∧ ds.length + 1 ≤ cap ∧ cap ≤ 9223372036854775807 ∧ w.cell? ⟨b, off, none⟩ = some (.int .u64 d) ∧
      (cap = 1 → RdU W.wd (.slice (some ⟨b, off, none⟩) ds.length 0) ds) ∧ (¬ cap = 1 → RdU W.wd (.slice (some ⟨b, off + 1, none⟩) ds.length (cap - 1)) ds) := by
  have hr := h.draws
  rw [hd] at hr
  have HR := hr
  obtain ⟨_, a, cap, rfl, hc1, hc2, hc3, hc4⟩ := hr
  obtain ⟨b, off, rfl, hcell⟩ := hc4 (by simp)
  have hcd : W.wd.cell? ⟨b, off, none⟩ = some (.int .u64 d) := hcell 0 (by simp)
  simp only [List.length_cons] at hc1 HR
  refine ⟨b, off, cap, rfl, hc1, hc2, (below_grown h.bel).cell hcd (fun e => by cases e), fun e => ?_, fun e => ?_⟩
  · subst e
    have := rdU_tail0 HR
    exact this
  · have := rdU_tail HR e
    rwa [Option.map_some, Addr.add_lit] at this
theorem cells_new (w : World) (vs : List Value) (e : TypeId) : ∀ j u, vs[j]? = some u → (w.alloc (.cells vs.toArray e)).cell? ((⟨w.heap.size, 0, none⟩ : Addr).add j) = some u := by
  intro j u hj
  have hh : (w.alloc (.cells vs.toArray e)).heap[w.heap.size]? = some (.cells vs.toArray e) := heap_alloc_new w _
  rw [Addr.add_lit]
  unfold World.cell?
  simp only [hh, Nat.zero_add]
  simpa using hj
theorem RO.keepBlk {W : WS} {w wx w' : World} {r : Nat} {fr : List Nat} {S : St} {R : List RRow} {dv lv : Value} (h : RO W w r fr S R dv lv) (hx : Below w.heap.size w wx) (hgrow : wx.grownBy w' lv.ownBlock) : Blk w' r 57 [dv, lv] := by
  have hrl := h.room r h.foot
  refine h.blk.block ?_
  rw [hgrow.block r (Nat.lt_of_lt_of_le hrl hx.size) (fun e => (h.apart r e.symm).2 rfl), hx.block r hrl]
theorem RO.grow {W : WS} {w wx w' : World} {r : Nat} {fr : List Nat} {S : St} {ds : List Int} {R : List RRow} {dv lv v' : Value} {q : RRow} (h : RO W w r fr ⟨ds, S.rows⟩ R dv lv) (hx : Below w.heap.size w wx)
    (hown : w'.ownsRow W.wd.heap.size 112 6 v' (R.length + 1) (flatR R ++ q.cells)) (hgrow : wx.grownBy w' lv.ownBlock) (hat : v'.ownBlock = lv.ownBlock ∨ v'.ownBlock = some wx.heap.size)
    (hg : Good S) (hN : R.length + 1 ≤ 100000) (hf : freshOf S.us S.draws = (q.h, ds)) (hv : Kp W w q.a (aOf q.x) ∧ Kp W w q.b (bOf q.x)) (hok : WhatOk q.x) :
    ∃ fr', RO W (w'.setCell ⟨r, 1, none⟩ v') r fr' (S.put q.x) (R ++ [q]) dv v' ∧ Of fr w fr' ∧ Turn fr w (w'.setCell ⟨r, 1, none⟩ v') := by
  have hlen : S.rows.length = R.length := by rw [h.rows]; simp
  have hfresh : S.fresh = q.h := by unfold St.fresh; rw [hf]
  have hput : S.put q.x = ⟨ds, S.rows ++ [(q.h, q.x)]⟩ := by unfold St.put; rw [hf, hfresh]
  have hgood := put_good hg (by omega) hok
  have hrl := h.room r h.foot
  have t1 : Turn fr w wx := Turn.of_below hx
  have t2 : Turn fr wx w' := ⟨hgrow.os, hgrow.tape, hgrow.output, hgrow.size, fun k hk hn => hgrow.block k hk (fun e => hn (h.apart k e.symm).1)⟩
  have t3 : Turn fr w' (w'.setCell ⟨r, 1, none⟩ v') := Turn.of_grown (grown_setCell _ _ _ _) h.foot
  have tall := (t1.same t2).same t3
  have hrb : w'.heap[r]? = w.heap[r]? := by
    rw [hgrow.block r (Nat.lt_of_lt_of_le hrl hx.size) (fun e => (h.apart r e.symm).2 rfl), hx.block r hrl]
  have hb' : Blk w' r 57 [dv, lv] := h.blk.block hrb
  have hv'r : ∀ k, v'.ownBlock = some k → k ≠ r := by
    intro k hk e
    rcases hat with e1 | e1
    · exact (h.apart k (e1 ▸ hk)).2 e
    · rw [hk] at e1
      cases e1
      have := hx.size
      omega
  have hown' : (w'.setCell ⟨r, 1, none⟩ v').ownsRow W.wd.heap.size 112 6 v' (R.length + 1) (flatR R ++ q.cells) := ownsRow_block hown (fun k hk => Below.heap_setCell w' _ _ k (fun e => hv'r k hk e))
  refine ⟨v'.ownBlock.toList ++ fr, ⟨?_, ?_, by simp [h.foot], ?_, ?_, h.bel.trans (tall.below h.bel.size h.new), ?_, ?_, ?_, ?_, ?_, hgood, by simp; omega⟩, ?_, tall⟩
  · rw [hput]
    show S.rows ++ _ = _
    rw [h.rows]
    simp
  · exact hb'.set 1 v'
  · intro k hk
    rcases List.mem_append.1 hk with e | e
    · exact (hown.lt k (by simpa using e)).1
    · exact h.new k e
  · intro k hk
    have hsz : (w'.setCell ⟨r, 1, none⟩ v').heap.size = w'.heap.size := by simp
    rw [hsz]
    rcases List.mem_append.1 hk with e | e
    · exact (hown.lt k (by simpa using e)).2
    · exact Nat.lt_of_lt_of_le (h.room k e) (Nat.le_trans hx.size hgrow.size)
  · rw [hput]
    exact h.draws
  · rw [flatR_append]
    simpa using hown'
  · intro k hk
    exact ⟨by simp [hk], hv'r k hk⟩
  · intro p hp
    rcases List.mem_append.1 hp with e | e
    · exact ⟨(h.vals p e).1.turn tall h.fsep, (h.vals p e).2.turn tall h.fsep⟩
    · simp at e
      subst e
      exact ⟨hv.1.turn tall h.fsep, hv.2.turn tall h.fsep⟩
  · intro k hk
    have hs := h.sep k hk
    refine ⟨fun e => ?_, Nat.lt_of_lt_of_le hs.2 tall.size⟩
    rcases List.mem_append.1 e with e | e
    · have hk' : v'.ownBlock = some k := by simpa using e
      rcases hat with e1 | e1
      · exact hs.1 (h.apart k (e1 ▸ hk')).1
      · rw [hk'] at e1
        cases e1
        have := hx.size
        omega
    · exact hs.1 e
  · intro k hk
    rcases List.mem_append.1 hk with e | e
    · have hk' : v'.ownBlock = some k := by simpa using e
      rcases hat with e1 | e1
      · exact .inl (h.apart k (e1 ▸ hk')).1
      · rw [hk'] at e1
        cases e1
        exact .inr hx.size
    · exact .inl e
set_option maxHeartbeats 2000000 in
set_option maxRecDepth 20000 in
theorem rput_any (W : WS) (w : World) (r : Nat) (fr : List Nat) (S : St) (R : List RRow) (dv lv : Value) (h : RO W w r fr S R dv lv) (x : What) (hx : WhatOk x) (va vb : Value) (ha : Kp W w va (aOf x)) (hb : Kp W w vb (bOf x)) (hN : R.length + 1 ≤ 100000) :
    Calls Tryz.prog 52 #[ptr r, .agg #[.int .u64 0, .int .i64 (kindOf x), va, vb, .int .u64 (nOf x), .int .u64 (mOf x)]] w fun e w' => e = .returned (.int .u64 S.fresh) ∧ (∃ fr' R' dv' lv', RO W w' r fr' (S.put x) R' dv' lv' ∧ Of fr w fr') ∧ Turn fr w w' := by
  have hbel := h.bel
  have HBEL : Hid (Below W.wd.heap.size W.wd w) := h.bel
  have HROOM : Hid (∀ k ∈ fr, k < w.heap.size) := h.room
  have hg := h.good
  have hrows := h.rows
  have HG : Hid (Good S) := hg
  have HROWS : Hid (S.rows = R.map fun q => (q.h, q.x)) := hrows
  have HV : Hid (Kp W w va (aOf x) ∧ Kp W w vb (bOf x)) := ⟨ha, hb⟩
  have HSEP : Hid (∀ k ∈ W.sb, k < w.heap.size) := fun k hk => (h.sep k hk).2
  have HFS : Hid (∀ k ∈ fr, W.wd.heap.size ≤ k ∧ k ∉ W.sb) := h.fsep
  obtain ⟨a1, c1, rfl⟩ := ha.1.len
  obtain ⟨a2, c2, rfl⟩ := hb.1.len
  have HS : Hid (RO W (w.alloc (.cells #[.int .u64 0, .int .i64 (kindOf x), .slice a1 (aOf x).length c1, .slice a2 (bOf x).length c2, .int .u64 (nOf x), .int .u64 (mOf x)] 112)) r fr ⟨S.draws, S.rows⟩ R dv lv) := h.below (balloc (Below.refl _ _) _)
  have HB0 : Hid (Blk (w.alloc (.cells #[.int .u64 0, .int .i64 (kindOf x), .slice a1 (aOf x).length c1, .slice a2 (bOf x).length c2, .int .u64 (nOf x), .int .u64 (mOf x)] 112)) w.heap.size 112 [.int .u64 0, .int .i64 (kindOf x), .slice a1 (aOf x).length c1, .slice a2 (bOf x).length c2, .int .u64 (nOf x), .int .u64 (mOf x)]) := heap_alloc_new w _
  have HT0 : Hid (Turn fr w (w.alloc (.cells #[.int .u64 0, .int .i64 (kindOf x), .slice a1 (aOf x).length c1, .slice a2 (bOf x).length c2, .int .u64 (nOf x), .int .u64 (mOf x)] 112))) := (Turn.refl fr w).alloc _
  have HF0 : Hid (Fits S.us S.draws 0 S.draws) := fits_start hg.draws
  have HX : Hid (WhatOk x) := hx
  obtain ⟨la, lc, rfl, hl1, hl2⟩ := slice_of_own h.own
  clear h ha hb hg hrows hbel hx
  go_enter Tryz.func52, Tryz.ntmps52
  go_wp2
  go_loopw [5] (fun hv wr => ∃ (hc : Int) (ds : List Int) (dv' : Value), hv = .int .u64 hc ∧ Hid (RO W wr r fr ⟨ds, S.rows⟩ R dv' (.slice la R.length lc)) ∧ Hid (Blk wr w.heap.size 112 [.int .u64 0, .int .i64 (kindOf x), .slice a1 (aOf x).length c1, .slice a2 (bOf x).length c2, .int .u64 (nOf x), .int .u64 (mOf x)]) ∧ Hid (Turn fr w wr) ∧ Hid (Fits S.us S.draws hc ds)) (fun _ wr => drawsLeft wr r)
  case atStart => exact ⟨0, S.draws, dv, rfl, HS, HB0, HT0, HF0⟩
  case round =>
    obtain ⟨hc, ds, dv', rfl, HR, HBK, HT, HF⟩ := hrel
    clear HS HB0 HT0 HF0
    have hU := HF.out.1
    cases ds with
    | nil =>
      obtain ⟨_, da, dc, rfl, d1, d2, _⟩ := HR.out.draws
      have c0 := HR.out.blk.cell 0 _ rfl
      by_cases hbad : hc = 0 ∨ hc ∈ S.us
      · have hfr : freshOf S.us S.draws = (leastFree S.us, []) := by rw [HF.out.2.2, if_pos hbad]; rfl
        have HFN : Hid (freshOf S.us S.draws = (leastFree S.us, [])) := hfr
        clear hfr
        have HDR : Hid True := trivial
        have hus : S.us.length = R.length := by rw [us_length, HROWS.out]; simp
        by_cases h0 : hc = 0
        · subst h0
          go_wp2_with fail
          go_loopw [5] (fun hv w2 => ∃ hc : Int, hv = .int .u64 hc ∧ 1 ≤ hc ∧ hc ≤ R.length + 1 ∧ Hid (∀ i, 1 ≤ i → i < hc → i ∈ S.us) ∧ w2 = wr) (fun hv _ => R.length + 2 - (intOf hv).toNat)
          case atStart => exact ⟨1, rfl, by omega, by omega, (fun i h1 h2 => by omega), rfl⟩
          case round =>
            obtain ⟨hc, rfl, g1, g2, g3, rfl⟩ := hrel
            rcases idx_mem HROWS.out hc with ⟨e1, i, e2, _⟩ | ⟨e1, e2⟩
            · have HI : Hid (idx R hc = i) := e2
              have HM : Hid (hc ∈ S.us) := e1
              have hw : IntKind.u64.wrap (hc + 1) = hc + 1 := wraps_u64 _ (by omega) (by omega)
              have hle : hc ≤ R.length := by
                have := pigeon hc.toNat S.us (fun i h1 h2 => by
                  by_cases e : i = hc
                  · rw [e]; exact e1
                  · exact g3.out i h1 (by omega))
                omega
              clear e1 e2
              go_wp2_with (go_at_call 93; go_must (refine (rat_any W _ r fr ⟨[], S.rows⟩ R _ _ HR.out hc).mono ?_; rw [HI.out]; rintro e w3 ⟨rfl, hw3⟩; replace hw3 := hw3.symm; subst hw3))
              go_roundw
              case rel => exact ⟨hc + 1, rfl, by omega, by omega, (fun i h1 h2 => by
                by_cases e : i = hc
                · rw [e]; exact HM.out
                · exact g3.out i h1 (by omega)), by first | rfl | trivial⟩
              case measure =>
                simp [intOf]
                omega
            · have HI : Hid (idx R hc = -1) := e2
              have hfr : freshOf S.us S.draws = (hc, []) := by
                have := leastFree_one g1 e1 g3.out
                rw [HFN.out, this]
              have HFR : Hid (freshOf S.us S.draws = (hc, [])) := hfr
              clear hfr
              clear e1 e2
              have fb0 := HBK.out.cell 0 _ rfl
              have ff0 := HBK.out.frozen 0
              have HB9 : Hid (Blk (wr.setCell ⟨w.heap.size, 0, none⟩ (.int .u64 hc)) w.heap.size 112 [.int .u64 hc, .int .i64 (kindOf x), .slice a1 (aOf x).length c1, .slice a2 (bOf x).length c2, .int .u64 (nOf x), .int .u64 (mOf x)]) := HBK.out.set 0 _
              have HR9 : Hid (RO W (wr.setCell ⟨w.heap.size, 0, none⟩ (.int .u64 hc)) r fr ⟨[], S.rows⟩ R (.slice da 0 dc) (.slice la R.length lc)) := HR.out.turn (X := [w.heap.size]) (Turn.of_grown (grown_setCell _ _ _ _) (by simp)) (fun k hk e => (by simp at e; have := HROOM.out k hk; omega)) (fun k hk => (by simp at hk; subst hk; exact ⟨HBEL.out.size, fun e => Nat.lt_irrefl _ (HSEP.out _ e)⟩))
              have HT9 : Hid (Turn fr w (wr.setCell ⟨w.heap.size, 0, none⟩ (.int .u64 hc))) := HT.out.trans (Turn.of_grown (ft := [w.heap.size]) (grown_setCell _ _ _ _) (by simp)) (fun k hk => .inr (by simp at hk; omega))
              go_upto_region 10 with (go_at_call 93; go_must (refine (rat_any W _ r fr ⟨[], S.rows⟩ R _ _ HR.out hc).mono ?_; rw [HI.out]; rintro e w3 ⟨rfl, hw3⟩; replace hw3 := hw3.symm; subst hw3))
              generalize wr.setCell ⟨w.heap.size, 0, none⟩ (.int .u64 hc) = w9 at HB9 HR9 HT9 ⊢
              have r1 := HR9.out.blk.cell 1 _ rfl
              have rf := HR9.out.blk.frozen 1
              have r1a := (HR9.out.below (balloc (Below.refl _ w9) (.cells #[.int .u64 hc, .int .i64 (kindOf x), .slice a1 (aOf x).length c1, .slice a2 (bOf x).length c2, .int .u64 (nOf x), .int .u64 (mOf x)] 112))).blk.cell 1 _ rfl
              have b0 := HB9.out.cell 0 _ rfl
              have b1 := HB9.out.cell 1 _ rfl
              have b2 := HB9.out.cell 2 _ rfl
              have b3 := HB9.out.cell 3 _ rfl
              have b4 := HB9.out.cell 4 _ rfl
              have b5 := HB9.out.cell 5 _ rfl
              have hbs := Nat.le_trans HBEL.out.size HT9.out.size
              obtain ⟨i0, hi, hz0, hz1, hz2⟩ := info_parts info86
              go_region_law (refine step_append_own rfl (.tmp 56) (.tmp 58) 55 rfl W.wd.heap.size 112 i0 noRow 6 80 Tryz.underlying55 hi hz0 hz1 hz2 rfl (by decide) (.slice la R.length lc) R.length (flatR R) (by simp [Act.eval]) (HR9.out.own.alloc _) ⟨w9.heap.size, 0, none⟩ 1 1 (RRow.cells ⟨hc, x, .slice a1 (aOf x).length c1, .slice a2 (bOf x).length c2⟩) (by simp [Act.eval]) rfl (cells_new w9 _ 112) (by simp [RRow.cells, Value.oneCell']) (by unfold maxLen; omega) (by omega) (by simp; omega) ?_; intro v' w' hown hgrow hat; obtain ⟨va', cap', rfl, _, _⟩ := slice_of_own hown; have kb := HR9.out.keepBlk (balloc (Below.refl _ _) _).drew hgrow; have s1 := kb.cell 1 _ rfl; have s2 := kb.frozen 1; have HGR : Hid (∃ fr', RO W (w'.setCell ⟨r, 1, none⟩ (.slice va' (R.length + 1) cap')) r fr' (S.put x) (R ++ [⟨hc, x, .slice a1 (aOf x).length c1, .slice a2 (bOf x).length c2⟩]) (.slice da 0 dc) (.slice va' (R.length + 1) cap') ∧ Of fr w9 fr' ∧ Turn fr w9 (w'.setCell ⟨r, 1, none⟩ (.slice va' (R.length + 1) cap'))) := HR9.out.grow (q := ⟨hc, x, .slice a1 (aOf x).length c1, .slice a2 (bOf x).length c2⟩) (balloc (Below.refl _ _) _).drew hown hgrow hat HG.out hN HFR.out ⟨HV.out.1.turn HT9.out HFS.out, HV.out.2.turn HT9.out HFS.out⟩ HX.out; clear hown hgrow hat kb)
              all_goals go_wp2
              all_goals go_ret
              all_goals
                obtain ⟨fr', ro, of', tn⟩ := HGR.out
                refine ⟨?_, ⟨fr', _, _, _, ro, (Of.trans (fun k hk => .inl hk) of' HT9.out.size)⟩, HT9.out.same tn⟩
                have : S.fresh = hc := by unfold St.fresh; rw [HFR.out]
                rw [this]
                rfl
        · have h0' : (hc == 0) = false := by simpa using h0
          obtain ⟨i, hi0⟩ : ∃ i : Nat, idx R hc = i := by
            rcases idx_mem HROWS.out hc with e | e
            · exact ⟨_, e.2.choose_spec.1⟩
            · exact absurd (hbad.resolve_left h0) e.1
          have HI : Hid (idx R hc = i) := hi0
          clear hi0 hbad h0
          go_wp2_with (go_at_call 93; go_must (refine (rat_any W _ r fr ⟨[], S.rows⟩ R _ _ HR.out hc).mono ?_; rw [HI.out]; rintro e w3 ⟨rfl, hw3⟩; replace hw3 := hw3.symm; subst hw3))
          go_loopw [5] (fun hv w2 => ∃ hc : Int, hv = .int .u64 hc ∧ 1 ≤ hc ∧ hc ≤ R.length + 1 ∧ Hid (∀ i, 1 ≤ i → i < hc → i ∈ S.us) ∧ w2 = wr) (fun hv _ => R.length + 2 - (intOf hv).toNat)
          case atStart => exact ⟨1, rfl, by omega, by omega, (fun i h1 h2 => by omega), rfl⟩
          case round =>
            obtain ⟨hc, rfl, g1, g2, g3, rfl⟩ := hrel
            rcases idx_mem HROWS.out hc with ⟨e1, i, e2, _⟩ | ⟨e1, e2⟩
            · have HI : Hid (idx R hc = i) := e2
              have HM : Hid (hc ∈ S.us) := e1
              have hw : IntKind.u64.wrap (hc + 1) = hc + 1 := wraps_u64 _ (by omega) (by omega)
              have hle : hc ≤ R.length := by
                have := pigeon hc.toNat S.us (fun i h1 h2 => by
                  by_cases e : i = hc
                  · rw [e]; exact e1
                  · exact g3.out i h1 (by omega))
                omega
              clear e1 e2
              go_wp2_with (go_at_call 93; go_must (refine (rat_any W _ r fr ⟨[], S.rows⟩ R _ _ HR.out hc).mono ?_; rw [HI.out]; rintro e w3 ⟨rfl, hw3⟩; replace hw3 := hw3.symm; subst hw3))
              go_roundw
              case rel => exact ⟨hc + 1, rfl, by omega, by omega, (fun i h1 h2 => by
                by_cases e : i = hc
                · rw [e]; exact HM.out
                · exact g3.out i h1 (by omega)), by first | rfl | trivial⟩
              case measure =>
                simp [intOf]
                omega
            · have HI : Hid (idx R hc = -1) := e2
              have hfr : freshOf S.us S.draws = (hc, []) := by
                have := leastFree_one g1 e1 g3.out
                rw [HFN.out, this]
              have HFR : Hid (freshOf S.us S.draws = (hc, [])) := hfr
              clear hfr
              clear e1 e2
              have fb0 := HBK.out.cell 0 _ rfl
              have ff0 := HBK.out.frozen 0
              have HB9 : Hid (Blk (wr.setCell ⟨w.heap.size, 0, none⟩ (.int .u64 hc)) w.heap.size 112 [.int .u64 hc, .int .i64 (kindOf x), .slice a1 (aOf x).length c1, .slice a2 (bOf x).length c2, .int .u64 (nOf x), .int .u64 (mOf x)]) := HBK.out.set 0 _
              have HR9 : Hid (RO W (wr.setCell ⟨w.heap.size, 0, none⟩ (.int .u64 hc)) r fr ⟨[], S.rows⟩ R (.slice da 0 dc) (.slice la R.length lc)) := HR.out.turn (X := [w.heap.size]) (Turn.of_grown (grown_setCell _ _ _ _) (by simp)) (fun k hk e => (by simp at e; have := HROOM.out k hk; omega)) (fun k hk => (by simp at hk; subst hk; exact ⟨HBEL.out.size, fun e => Nat.lt_irrefl _ (HSEP.out _ e)⟩))
              have HT9 : Hid (Turn fr w (wr.setCell ⟨w.heap.size, 0, none⟩ (.int .u64 hc))) := HT.out.trans (Turn.of_grown (ft := [w.heap.size]) (grown_setCell _ _ _ _) (by simp)) (fun k hk => .inr (by simp at hk; omega))
              go_upto_region 10 with (go_at_call 93; go_must (refine (rat_any W _ r fr ⟨[], S.rows⟩ R _ _ HR.out hc).mono ?_; rw [HI.out]; rintro e w3 ⟨rfl, hw3⟩; replace hw3 := hw3.symm; subst hw3))
              generalize wr.setCell ⟨w.heap.size, 0, none⟩ (.int .u64 hc) = w9 at HB9 HR9 HT9 ⊢
              have r1 := HR9.out.blk.cell 1 _ rfl
              have rf := HR9.out.blk.frozen 1
              have r1a := (HR9.out.below (balloc (Below.refl _ w9) (.cells #[.int .u64 hc, .int .i64 (kindOf x), .slice a1 (aOf x).length c1, .slice a2 (bOf x).length c2, .int .u64 (nOf x), .int .u64 (mOf x)] 112))).blk.cell 1 _ rfl
              have b0 := HB9.out.cell 0 _ rfl
              have b1 := HB9.out.cell 1 _ rfl
              have b2 := HB9.out.cell 2 _ rfl
              have b3 := HB9.out.cell 3 _ rfl
              have b4 := HB9.out.cell 4 _ rfl
              have b5 := HB9.out.cell 5 _ rfl
              have hbs := Nat.le_trans HBEL.out.size HT9.out.size
              obtain ⟨i0, hi, hz0, hz1, hz2⟩ := info_parts info86
              go_region_law (refine step_append_own rfl (.tmp 56) (.tmp 58) 55 rfl W.wd.heap.size 112 i0 noRow 6 80 Tryz.underlying55 hi hz0 hz1 hz2 rfl (by decide) (.slice la R.length lc) R.length (flatR R) (by simp [Act.eval]) (HR9.out.own.alloc _) ⟨w9.heap.size, 0, none⟩ 1 1 (RRow.cells ⟨hc, x, .slice a1 (aOf x).length c1, .slice a2 (bOf x).length c2⟩) (by simp [Act.eval]) rfl (cells_new w9 _ 112) (by simp [RRow.cells, Value.oneCell']) (by unfold maxLen; omega) (by omega) (by simp; omega) ?_; intro v' w' hown hgrow hat; obtain ⟨va', cap', rfl, _, _⟩ := slice_of_own hown; have kb := HR9.out.keepBlk (balloc (Below.refl _ _) _).drew hgrow; have s1 := kb.cell 1 _ rfl; have s2 := kb.frozen 1; have HGR : Hid (∃ fr', RO W (w'.setCell ⟨r, 1, none⟩ (.slice va' (R.length + 1) cap')) r fr' (S.put x) (R ++ [⟨hc, x, .slice a1 (aOf x).length c1, .slice a2 (bOf x).length c2⟩]) (.slice da 0 dc) (.slice va' (R.length + 1) cap') ∧ Of fr w9 fr' ∧ Turn fr w9 (w'.setCell ⟨r, 1, none⟩ (.slice va' (R.length + 1) cap'))) := HR9.out.grow (q := ⟨hc, x, .slice a1 (aOf x).length c1, .slice a2 (bOf x).length c2⟩) (balloc (Below.refl _ _) _).drew hown hgrow hat HG.out hN HFR.out ⟨HV.out.1.turn HT9.out HFS.out, HV.out.2.turn HT9.out HFS.out⟩ HX.out; clear hown hgrow hat kb)
              all_goals go_wp2
              all_goals go_ret
              all_goals
                obtain ⟨fr', ro, of', tn⟩ := HGR.out
                refine ⟨?_, ⟨fr', _, _, _, ro, (Of.trans (fun k hk => .inl hk) of' HT9.out.size)⟩, HT9.out.same tn⟩
                have : S.fresh = hc := by unfold St.fresh; rw [HFR.out]
                rw [this]
                rfl
      · have hfr : freshOf S.us S.draws = (hc, []) := by rw [HF.out.2.2, if_neg hbad]
        have HFR : Hid (freshOf S.us S.draws = (hc, [])) := hfr
        have h0' : (hc == 0) = false := by have := fun e => hbad (.inl e); simpa using this
        have HI : Hid (idx R hc = -1) := by
          rcases idx_mem HROWS.out hc with e | e
          · exact absurd (.inr e.1) hbad
          · exact e.2
        clear hbad hfr
        have fb0 := HBK.out.cell 0 _ rfl
        have ff0 := HBK.out.frozen 0
        have HB9 : Hid (Blk (wr.setCell ⟨w.heap.size, 0, none⟩ (.int .u64 hc)) w.heap.size 112 [.int .u64 hc, .int .i64 (kindOf x), .slice a1 (aOf x).length c1, .slice a2 (bOf x).length c2, .int .u64 (nOf x), .int .u64 (mOf x)]) := HBK.out.set 0 _
        have HR9 : Hid (RO W (wr.setCell ⟨w.heap.size, 0, none⟩ (.int .u64 hc)) r fr ⟨[], S.rows⟩ R (.slice da 0 dc) (.slice la R.length lc)) := HR.out.turn (X := [w.heap.size]) (Turn.of_grown (grown_setCell _ _ _ _) (by simp)) (fun k hk e => (by simp at e; have := HROOM.out k hk; omega)) (fun k hk => (by simp at hk; subst hk; exact ⟨HBEL.out.size, fun e => Nat.lt_irrefl _ (HSEP.out _ e)⟩))
        have HT9 : Hid (Turn fr w (wr.setCell ⟨w.heap.size, 0, none⟩ (.int .u64 hc))) := HT.out.trans (Turn.of_grown (ft := [w.heap.size]) (grown_setCell _ _ _ _) (by simp)) (fun k hk => .inr (by simp at hk; omega))
        go_upto_region 10 with (go_at_call 93; go_must (refine (rat_any W _ r fr ⟨[], S.rows⟩ R _ _ HR.out hc).mono ?_; rw [HI.out]; rintro e w3 ⟨rfl, hw3⟩; replace hw3 := hw3.symm; subst hw3))
        generalize wr.setCell ⟨w.heap.size, 0, none⟩ (.int .u64 hc) = w9 at HB9 HR9 HT9 ⊢
        have r1 := HR9.out.blk.cell 1 _ rfl
        have rf := HR9.out.blk.frozen 1
        have r1a := (HR9.out.below (balloc (Below.refl _ w9) (.cells #[.int .u64 hc, .int .i64 (kindOf x), .slice a1 (aOf x).length c1, .slice a2 (bOf x).length c2, .int .u64 (nOf x), .int .u64 (mOf x)] 112))).blk.cell 1 _ rfl
        have b0 := HB9.out.cell 0 _ rfl
        have b1 := HB9.out.cell 1 _ rfl
        have b2 := HB9.out.cell 2 _ rfl
        have b3 := HB9.out.cell 3 _ rfl
        have b4 := HB9.out.cell 4 _ rfl
        have b5 := HB9.out.cell 5 _ rfl
        have hbs := Nat.le_trans HBEL.out.size HT9.out.size
        obtain ⟨i0, hi, hz0, hz1, hz2⟩ := info_parts info86
        go_region_law (refine step_append_own rfl (.tmp 56) (.tmp 58) 55 rfl W.wd.heap.size 112 i0 noRow 6 80 Tryz.underlying55 hi hz0 hz1 hz2 rfl (by decide) (.slice la R.length lc) R.length (flatR R) (by simp [Act.eval]) (HR9.out.own.alloc _) ⟨w9.heap.size, 0, none⟩ 1 1 (RRow.cells ⟨hc, x, .slice a1 (aOf x).length c1, .slice a2 (bOf x).length c2⟩) (by simp [Act.eval]) rfl (cells_new w9 _ 112) (by simp [RRow.cells, Value.oneCell']) (by unfold maxLen; omega) (by omega) (by simp; omega) ?_; intro v' w' hown hgrow hat; obtain ⟨va', cap', rfl, _, _⟩ := slice_of_own hown; have kb := HR9.out.keepBlk (balloc (Below.refl _ _) _).drew hgrow; have s1 := kb.cell 1 _ rfl; have s2 := kb.frozen 1; have HGR : Hid (∃ fr', RO W (w'.setCell ⟨r, 1, none⟩ (.slice va' (R.length + 1) cap')) r fr' (S.put x) (R ++ [⟨hc, x, .slice a1 (aOf x).length c1, .slice a2 (bOf x).length c2⟩]) (.slice da 0 dc) (.slice va' (R.length + 1) cap') ∧ Of fr w9 fr' ∧ Turn fr w9 (w'.setCell ⟨r, 1, none⟩ (.slice va' (R.length + 1) cap'))) := HR9.out.grow (q := ⟨hc, x, .slice a1 (aOf x).length c1, .slice a2 (bOf x).length c2⟩) (balloc (Below.refl _ _) _).drew hown hgrow hat HG.out hN HFR.out ⟨HV.out.1.turn HT9.out HFS.out, HV.out.2.turn HT9.out HFS.out⟩ HX.out; clear hown hgrow hat kb)
        all_goals go_wp2
        all_goals go_ret
        all_goals
          obtain ⟨fr', ro, of', tn⟩ := HGR.out
          refine ⟨?_, ⟨fr', _, _, _, ro, (Of.trans (fun k hk => .inl hk) of' HT9.out.size)⟩, HT9.out.same tn⟩
          have : S.fresh = hc := by unfold St.fresh; rw [HFR.out]
          rw [this]
          rfl
    | cons d ds =>
      obtain ⟨db, doff, dcap, rfl, d1, d2, dcell, dt1, dt2⟩ := HR.out.head rfl
      have DT1 : Hid (dcap = 1 → RdU W.wd (.slice (some ⟨db, doff, none⟩) ds.length 0) ds) := dt1
      have DT2 : Hid (¬ dcap = 1 → RdU W.wd (.slice (some ⟨db, doff + 1, none⟩) ds.length (dcap - 1)) ds) := dt2
      have c0 := HR.out.blk.cell 0 _ rfl
      have f0 := HR.out.blk.frozen 0
      clear dt1 dt2
      by_cases hbad : hc = 0 ∨ hc ∈ S.us
      · have HBAD : Hid (hc = 0 ∨ hc ∈ S.us) := hbad
        by_cases h0 : hc = 0
        · subst h0
          by_cases hcap : dcap = 1
          · subst hcap
            have hds : ds.length = 0 := by omega
            have DT := DT1.out rfl
            have DT : Hid (RdU W.wd (.slice (some ⟨db, doff, none⟩) 0 0) ds) := by rw [hds] at DT; exact DT
            go_wp2_with fail
            go_roundw
            case rel => exact ⟨d, ds, _, rfl, HR.out.setDraws (DT.out), HBK.out.block (Below.heap_setCell _ _ _ _ (fun e => by have e' : w.heap.size = r := e; have := HROOM.out r HR.out.foot; omega)), HT.out.same (Turn.of_grown (grown_setCell _ _ _ _) HR.out.foot), HF.out.step HBAD.out⟩
            case measure =>
              show drawsLeft _ r < drawsLeft _ r
              rw [(HR.out.setDraws (DT.out)).drawsLeft, HR.out.drawsLeft]
              simp
          · have DT : Hid (RdU W.wd (.slice (some ⟨db, doff + 1, none⟩) ds.length (dcap - 1)) ds) := DT2.out hcap
            go_wp2_with fail
            go_roundw
            case rel => exact ⟨d, ds, _, rfl, HR.out.setDraws (DT.out), HBK.out.block (Below.heap_setCell _ _ _ _ (fun e => by have e' : w.heap.size = r := e; have := HROOM.out r HR.out.foot; omega)), HT.out.same (Turn.of_grown (grown_setCell _ _ _ _) HR.out.foot), HF.out.step HBAD.out⟩
            case measure =>
              show drawsLeft _ r < drawsLeft _ r
              rw [(HR.out.setDraws (DT.out)).drawsLeft, HR.out.drawsLeft]
              simp
        · have h0' : (hc == 0) = false := by simpa using h0
          obtain ⟨i, hi0⟩ : ∃ i : Nat, idx R hc = i := by
            rcases idx_mem HROWS.out hc with e | e
            · exact ⟨_, e.2.choose_spec.1⟩
            · exact absurd (hbad.resolve_left h0) e.1
          have HI : Hid (idx R hc = i) := hi0
          clear hi0 hbad h0
          by_cases hcap : dcap = 1
          · subst hcap
            have hds : ds.length = 0 := by omega
            have DT := DT1.out rfl
            have DT : Hid (RdU W.wd (.slice (some ⟨db, doff, none⟩) 0 0) ds) := by rw [hds] at DT; exact DT
            go_wp2_with (go_at_call 93; go_must (refine (rat_any W _ r fr ⟨d :: ds, S.rows⟩ R _ _ HR.out hc).mono ?_; rw [HI.out]; rintro e w3 ⟨rfl, hw3⟩; replace hw3 := hw3.symm; subst hw3))
            go_roundw
            case rel => exact ⟨d, ds, _, rfl, HR.out.setDraws (DT.out), HBK.out.block (Below.heap_setCell _ _ _ _ (fun e => by have e' : w.heap.size = r := e; have := HROOM.out r HR.out.foot; omega)), HT.out.same (Turn.of_grown (grown_setCell _ _ _ _) HR.out.foot), HF.out.step HBAD.out⟩
            case measure =>
              show drawsLeft _ r < drawsLeft _ r
              rw [(HR.out.setDraws (DT.out)).drawsLeft, HR.out.drawsLeft]
              simp
          · have DT : Hid (RdU W.wd (.slice (some ⟨db, doff + 1, none⟩) ds.length (dcap - 1)) ds) := DT2.out hcap
            go_wp2_with (go_at_call 93; go_must (refine (rat_any W _ r fr ⟨d :: ds, S.rows⟩ R _ _ HR.out hc).mono ?_; rw [HI.out]; rintro e w3 ⟨rfl, hw3⟩; replace hw3 := hw3.symm; subst hw3))
            go_roundw
            case rel => exact ⟨d, ds, _, rfl, HR.out.setDraws (DT.out), HBK.out.block (Below.heap_setCell _ _ _ _ (fun e => by have e' : w.heap.size = r := e; have := HROOM.out r HR.out.foot; omega)), HT.out.same (Turn.of_grown (grown_setCell _ _ _ _) HR.out.foot), HF.out.step HBAD.out⟩
            case measure =>
              show drawsLeft _ r < drawsLeft _ r
              rw [(HR.out.setDraws (DT.out)).drawsLeft, HR.out.drawsLeft]
              simp
      · have hfr : freshOf S.us S.draws = (hc, d :: ds) := by rw [HF.out.2.2, if_neg hbad]
        have HFR : Hid (freshOf S.us S.draws = (hc, d :: ds)) := hfr
        have h0' : (hc == 0) = false := by have := fun e => hbad (.inl e); simpa using this
        have HI : Hid (idx R hc = -1) := by
          rcases idx_mem HROWS.out hc with e | e
          · exact absurd (.inr e.1) hbad
          · exact e.2
        clear hbad hfr
        have fb0 := HBK.out.cell 0 _ rfl
        have ff0 := HBK.out.frozen 0
        have HB9 : Hid (Blk (wr.setCell ⟨w.heap.size, 0, none⟩ (.int .u64 hc)) w.heap.size 112 [.int .u64 hc, .int .i64 (kindOf x), .slice a1 (aOf x).length c1, .slice a2 (bOf x).length c2, .int .u64 (nOf x), .int .u64 (mOf x)]) := HBK.out.set 0 _
        have HR9 : Hid (RO W (wr.setCell ⟨w.heap.size, 0, none⟩ (.int .u64 hc)) r fr ⟨d :: ds, S.rows⟩ R (.slice (some ⟨db, doff, none⟩) (ds.length + 1) dcap) (.slice la R.length lc)) := HR.out.turn (X := [w.heap.size]) (Turn.of_grown (grown_setCell _ _ _ _) (by simp)) (fun k hk e => (by simp at e; have := HROOM.out k hk; omega)) (fun k hk => (by simp at hk; subst hk; exact ⟨HBEL.out.size, fun e => Nat.lt_irrefl _ (HSEP.out _ e)⟩))
        have HT9 : Hid (Turn fr w (wr.setCell ⟨w.heap.size, 0, none⟩ (.int .u64 hc))) := HT.out.trans (Turn.of_grown (ft := [w.heap.size]) (grown_setCell _ _ _ _) (by simp)) (fun k hk => .inr (by simp at hk; omega))
        go_upto_region 10 with (go_at_call 93; go_must (refine (rat_any W _ r fr ⟨d :: ds, S.rows⟩ R _ _ HR.out hc).mono ?_; rw [HI.out]; rintro e w3 ⟨rfl, hw3⟩; replace hw3 := hw3.symm; subst hw3))
        generalize wr.setCell ⟨w.heap.size, 0, none⟩ (.int .u64 hc) = w9 at HB9 HR9 HT9 ⊢
        have r1 := HR9.out.blk.cell 1 _ rfl
        have rf := HR9.out.blk.frozen 1
        have r1a := (HR9.out.below (balloc (Below.refl _ w9) (.cells #[.int .u64 hc, .int .i64 (kindOf x), .slice a1 (aOf x).length c1, .slice a2 (bOf x).length c2, .int .u64 (nOf x), .int .u64 (mOf x)] 112))).blk.cell 1 _ rfl
        have b0 := HB9.out.cell 0 _ rfl
        have b1 := HB9.out.cell 1 _ rfl
        have b2 := HB9.out.cell 2 _ rfl
        have b3 := HB9.out.cell 3 _ rfl
        have b4 := HB9.out.cell 4 _ rfl
        have b5 := HB9.out.cell 5 _ rfl
        have hbs := Nat.le_trans HBEL.out.size HT9.out.size
        obtain ⟨i0, hi, hz0, hz1, hz2⟩ := info_parts info86
        go_region_law (refine step_append_own rfl (.tmp 56) (.tmp 58) 55 rfl W.wd.heap.size 112 i0 noRow 6 80 Tryz.underlying55 hi hz0 hz1 hz2 rfl (by decide) (.slice la R.length lc) R.length (flatR R) (by simp [Act.eval]) (HR9.out.own.alloc _) ⟨w9.heap.size, 0, none⟩ 1 1 (RRow.cells ⟨hc, x, .slice a1 (aOf x).length c1, .slice a2 (bOf x).length c2⟩) (by simp [Act.eval]) rfl (cells_new w9 _ 112) (by simp [RRow.cells, Value.oneCell']) (by unfold maxLen; omega) (by omega) (by simp; omega) ?_; intro v' w' hown hgrow hat; obtain ⟨va', cap', rfl, _, _⟩ := slice_of_own hown; have kb := HR9.out.keepBlk (balloc (Below.refl _ _) _).drew hgrow; have s1 := kb.cell 1 _ rfl; have s2 := kb.frozen 1; have HGR : Hid (∃ fr', RO W (w'.setCell ⟨r, 1, none⟩ (.slice va' (R.length + 1) cap')) r fr' (S.put x) (R ++ [⟨hc, x, .slice a1 (aOf x).length c1, .slice a2 (bOf x).length c2⟩]) (.slice (some ⟨db, doff, none⟩) (ds.length + 1) dcap) (.slice va' (R.length + 1) cap') ∧ Of fr w9 fr' ∧ Turn fr w9 (w'.setCell ⟨r, 1, none⟩ (.slice va' (R.length + 1) cap'))) := HR9.out.grow (q := ⟨hc, x, .slice a1 (aOf x).length c1, .slice a2 (bOf x).length c2⟩) (balloc (Below.refl _ _) _).drew hown hgrow hat HG.out hN HFR.out ⟨HV.out.1.turn HT9.out HFS.out, HV.out.2.turn HT9.out HFS.out⟩ HX.out; clear hown hgrow hat kb)
        all_goals go_wp2
        all_goals go_ret
        all_goals
          obtain ⟨fr', ro, of', tn⟩ := HGR.out
          refine ⟨?_, ⟨fr', _, _, _, ro, (Of.trans (fun k hk => .inl hk) of' HT9.out.size)⟩, HT9.out.same tn⟩
          have : S.fresh = hc := by unfold St.fresh; rw [HFR.out]
          rw [this]
          rfl
end Go.Proofs.YtjbpfhnagiacmaaGreat
