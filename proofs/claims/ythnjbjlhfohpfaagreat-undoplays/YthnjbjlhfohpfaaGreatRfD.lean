/-
  The reference's Do.
-/
import Derived.Test.YthnjbjlhfohpfaaGreatTrQ
import Derived.Test.YthnjbjlhfohpfaaGreatTsD
import Derived.Test.YthnjbjlhfohpfaaGreatRfS
namespace Go.Proofs.YthnjbjlhfohpfaaGreat
set_option linter.unusedVariables false
set_option linter.unusedSimpArgs false
set_option synthInstance.maxSize 20000
set_option maxHeartbeats 2000000
set_option maxRecDepth 20000
open Go.RowKit Go.Maps

theorem rd_pastitb {w w' : World} {g : Nat} {x : IT} {v : Value} {l : List Int} (hr : Rd w v l) (hi : Itb w g x) (hg : w.grownBy w' (some g)) : Rd w' v l := by
  have hr0 := hr
  refine hr.blocks fun hl k hk hlt => ?_
  obtain ⟨_, a, cap, rfl, h1, h2, h3, h4⟩ := hr0
  have hp : 0 < l.length := by cases l with
    | nil => exact absurd rfl hl
    | cons x l => simp
  obtain ⟨b, off, rfl, hc⟩ := h4 hp
  have e1 : b = k := by simpa [Value.ownBlock] using hk
  subst e1
  refine hg.block _ hlt fun e => ?_
  cases e
  have c0 := hc 0 hp
  have hb : w.heap[g]? = some (.cells (ic x).toArray 76 (0, 0)) := hi
  simp [World.cell?, hb] at c0
  have hm := List.mem_of_getElem? c0
  simp only [ic, List.mem_cons, List.not_mem_nil, or_false] at hm
  rcases hm with h | h | h | h | h | h | h | h | h | h <;> simp at h
theorem two_op41 {w w1 : World} {B0 B1 : Nat} {q : OpT} (hw1 : w1 = (w.alloc (.cells (oc q).toArray 38)).alloc (.cells (ic zT).toArray 76)) (h0 : B0 = w.heap.size) (h1 : B1 = w.heap.size + 1) :
    Below w.heap.size w w1 ∧ Opb w1 B0 q ∧ Itb w1 B1 zT ∧ w.heap.size ≤ B1 := by
  subst hw1 h0 h1
  refine ⟨balloc (balloc (Below.refl _ _) _) _, Blk.alloc (opb_new w q) _, ?_, by omega⟩
  have := itb_new (w.alloc (.cells (oc q).toArray 38)) zT
  simpa using this
section
variable {o : Oper} {r : Operand → Value} {w : World} {b : Nat} {q : IT}
theorem exec_zero41 (ho : o.op = .build 76 #[]) : (execOp r o).run Tryz.prog w = .ok (.value (iv zT)) w := by
  unfold execOp
  simp only [ho]
  go_simp
  rfl
theorem exec_new41 {n p : S} {s : ByteArray} {d : Bool} (x1 x2 x3 x4 : Operand) (ho : o.op = .build 76 #[(0, x1), (1, x2), (2, x3), (3, x4)]) (h1 : r x1 = sv n) (h2 : r x2 = sv p) (h3 : r x3 = .string s) (h4 : r x4 = .bool d) : (execOp r o).run Tryz.prog w = .ok (.value (iv ⟨⟨n, p, s, d, false, (0, 0), []⟩, none, 0, 0⟩)) w := by
  obtain ⟨n1, n2⟩ := n
  obtain ⟨p1, p2⟩ := p
  unfold sv at h1 h2
  unfold iv ic
  dsimp only at h1 h2 ⊢
  unfold execOp
  simp only [ho]
  go_simp
theorem Itb.ret12 {k j : Value} {tmps : Array Value} (h : Itb w b q) (h1 : tmps.getD 4 undef = ptr b) (h2 : tmps.getD 5 undef = k) (h3 : tmps.getD 6 undef = j) : (results Tryz.f33 tmps).run Tryz.prog w = .ok (.tuple #[iv q, k, j]) w := by
  rw [results_cell_tmp2 (show Tryz.f33.results = #[.cell 4 76, .tmp 5, .tmp 6] from rfl), h1, h2, h3]
  have e1 : (asAddr (ptr b)).run Tryz.prog w = .ok ⟨b, 0, none⟩ w := rfl
  rw [e1]
  simp only [Result.andThen_ok, h.load]
theorem Itb.setPar {p : S} (h : Itb w b q) : Itb (w.setCells b 2 (sc p)) b { q with m := { q.m with p := p } } := by
  have := Blk.setCells h 2 (sc p) (by rw [ic_len]; simp [sc])
  exact this
theorem Itb.setBy {p : S} (h : Itb w b q) : Itb (w.setCells b 8 (sc p)) b { q with m := { q.m with y := p } } := by
  have := Blk.setCells h 8 (sc p) (by rw [ic_len]; simp [sc])
  exact this
theorem Itb.setName {s : ByteArray} (h : Itb w b q) : Itb (w.setCell ⟨b, 4, none⟩ (.string s)) b { q with m := { q.m with s := s } } := Blk.set h 4 _
theorem Itb.setGone {g : Bool} (h : Itb w b q) : Itb (w.setCell ⟨b, 6, none⟩ (.bool g)) b { q with m := { q.m with g := g } } := Blk.set h 6 _
theorem Itb.setData {a : Option Addr} {n c : Nat} {l : List Int} (h : Itb w b q) : Itb (w.setCell ⟨b, 7, none⟩ (.slice a n c)) b ⟨{ q.m with b := l }, a, n, c⟩ := Blk.set h 7 _
end
section
variable {M : List IM} {q : OpT} {u : IM}
theorem ch1_has (hk : q.k = 1) (h : (findM M q.n).isSome = true) : chM M q = none := by
  unfold chM hasM; rw [if_pos hk, if_pos h]
theorem ch1_nod (hk : q.k = 1) (h : (findM M q.n).isSome = false) (hd : dirM M q.p = false) : chM M q = none := by
  unfold chM hasM; rw [if_pos hk, if_neg (by rw [h]; simp), if_neg (by rw [hd]; simp)]
theorem ch1_new (hk : q.k = 1) (h : (findM M q.n).isSome = false) (hd : dirM M q.p = true) : chM M q = some (newI q) := by
  unfold chM hasM; rw [if_pos hk, if_neg (by rw [h]; simp), if_pos hd]
theorem chx_no (hk : ¬ q.k = 1) (h : findM M q.n = none) : chM M q = none := by
  unfold chM; rw [if_neg hk, h]
theorem ch2_nod (hk : q.k = 2) (f : findM M q.n = some u) (hd : dirM M q.p = false) : chM M q = none := by
  unfold chM; rw [if_neg (by omega), f]; show (if q.k = 2 then _ else _) = _; rw [if_pos hk, if_neg (by rw [hd]; simp)]
theorem ch2_in (hk : q.k = 2) (f : findM M q.n = some u) (hd : dirM M q.p = true) (hw : withinM M 301 q.n q.p = true) : chM M q = none := by
  unfold chM; rw [if_neg (by omega), f]; show (if q.k = 2 then _ else _) = _; rw [if_pos hk, if_pos hd, if_pos hw]
theorem ch2_mov (hk : q.k = 2) (f : findM M q.n = some u) (hd : dirM M q.p = true) (hw : withinM M 301 q.n q.p = false) : chM M q = some (movI u q) := by
  unfold chM; rw [if_neg (by omega), f]; show (if q.k = 2 then _ else _) = _; rw [if_pos hk, if_pos hd, if_neg (by rw [hw]; simp)]
theorem ch3_rem (hk : q.k = 3) (f : findM M q.n = some u) : chM M q = some (remI u) := by
  unfold chM; rw [if_neg (by omega), f]; show (if q.k = 2 then _ else _) = _; rw [if_neg (by omega), if_pos hk]
theorem ch4_dir (hk : q.k = 4) (f : findM M q.n = some u) (hd : u.d = true) : chM M q = none := by
  unfold chM; rw [if_neg (by omega), f]; show (if q.k = 2 then _ else _) = _; rw [if_neg (by omega), if_neg (by omega), if_pos hd]
theorem ch4_wri (hk : q.k = 4) (f : findM M q.n = some u) (hd : u.d = false) : chM M q = some (wriI u q) := by
  unfold chM; rw [if_neg (by omega), f]; show (if q.k = 2 then _ else _) = _; rw [if_neg (by omega), if_neg (by omega), if_neg (by rw [hd]; simp)]
end
/-- What the reference's Do answers, and what it leaves. -/
structure RDo (w : World) (tb : Nat) (L : List IT) (q : OpT) (x : IT) (b : Bool) (k : Int) (w' : World) : Prop where
  m : x.m = if rightO q = true then (findM (L.map IT.m) q.n).getD zM else zM
  b : b = (rightO q && (findM (L.map IT.m) q.n).isSome)
  k : k = if rightO q = true then 0 else 1
  rd : Rd w' x.v x.m.b
  tree : ∃ v' L', RTr w' tb v' L' ∧ L'.map IT.m = doM (L.map IT.m) q ∧ w.grownBy w' (some tb)
theorem GotT.found {w : World} {L : List IT} {n : S} {x : IT} (h : GotT w L n x true) : findM (L.map IT.m) n = some x.m := by
  have h1 := h.is
  have h2 := h.m
  cases hf : findM (L.map IT.m) n with
  | none => rw [hf] at h1; cases h1
  | some y => rw [hf] at h2; rw [h2]; rfl
theorem GotT.lost {w : World} {L : List IT} {n : S} {x : IT} (h : GotT w L n x false) : findM (L.map IT.m) n = none := by
  have h1 := h.is
  cases hf : findM (L.map IT.m) n with
  | none => rfl
  | some y => rw [hf] at h1; cases h1
section
variable {w w3 w8 : World} {tb B1 : Nat} {v : Value} {L : List IT} {q : OpT} {x : IT} {b : Bool}
theorem rdo_none (h : RTr w tb v L) (hr : rightO q = true) (hg : GotT w3 L q.n x b) (h38 : Below w3.heap.size w3 w8) (h8 : Below w.heap.size w w8) (hz : Itb w8 B1 zT) (hB : w.heap.size ≤ B1) (hc : chM (L.map IT.m) q = none) : RDo w tb L q x b 0 (w8.setCells B1 0 (ic x)) := by
  have hg9 := grown_setCells B1 (ic x) 0 w8
  refine ⟨by rw [if_pos hr]; exact hg.m, by rw [hr]; exact hg.is, by rw [if_pos hr], rd_pastitb (hg.rd.below h38) hz hg9, v, L, h.below (below_put h8 hB), ?_, ?_⟩
  · unfold doM stepM; rw [if_pos hr, hc]
  · have := below_grown (below_put (xs := ic x) h8 hB)
    exact ⟨this.os, this.tape, this.output, this.size, fun k hk _ => this.block k hk (by simp)⟩
theorem rdo_some {w10 : World} {y : IT} {u : IM} (h : RTr w tb v L) (hr : rightO q = true) (hg : GotT w3 L q.n x b) (h38 : Below w3.heap.size w3 w8) (h8 : Below w.heap.size w w8) (hz : Itb w8 B1 zT) (hB : w.heap.size ≤ B1) (hc : chM (L.map IT.m) q = some u) (hy : y.m = u)
    (hs : ∃ v', RTr w10 tb v' (setT L y true) ∧ w8.grownBy w10 (some tb) ∧ ∀ k, v'.ownBlock = some k → w8.heap.size ≤ k) (hsl : ∀ n, v ≠ .int .u8 n) : Itb w10 B1 zT ∧ RDo w tb L q x b 0 (w10.setCells B1 0 (ic x)) := by
  obtain ⟨v', hR, hG, hN⟩ := hs
  have hlt : tb < w.heap.size := Blk.lt h.blk
  have hne : B1 ≠ tb := by omega
  have hz10 : Itb w10 B1 zT := Blk.past hz hG hne
  have hB1 : B1 < w8.heap.size := Blk.lt hz
  have hg9 := grown_setCells B1 (ic x) 0 w10
  have hrd : Rd w10 x.v x.m.b := rd_past (hg.rd.below h38) ((h.below h8).blk) hsl hG
  refine ⟨hz10, by rw [if_pos hr]; exact hg.m, by rw [hr]; exact hg.is, by rw [if_pos hr], rd_pastitb hrd hz10 hg9, v', setT L y true, ⟨hR.blk.past hg9 hne.symm, hR.row.blocks fun j hj hj2 => hg9.block j hj2 fun e => ?_, fun z hz' => rd_pastitb (hR.rd z hz') hz10 hg9⟩, ?_, ?_⟩
  · have h1 := hN j hj
    have := Option.some.inj e
    omega
  · rw [setT_map]
    unfold doM stepM
    rw [if_pos hr, hc, hy]
    rfl
  · exact grown_trans (grown_none (below_grown h8) hG) hg9 fun k hk => .inr (by cases hk; exact hB)
end
set_option maxHeartbeats 8000000 in
theorem do12 {w : World} {tb : Nat} {v : Value} {L : List IT} (h : RTr w tb v L) (few : L.length ≤ 200) (hsr : SrtI (L.map IT.m)) (q : OpT) (hq : Rd w q.v q.b) : Calls Tryz.prog 33 #[ptr tb, ov q] w fun e w' => ∃ x b k, e = .returned (.tuple #[iv x, .bool b, .int .i64 k]) ∧ RDo w tb L q x b k w' := by
  obtain ⟨a, c, rfl⟩ := h.row.len
  have HRT : Hid (RTr w tb (.slice a L.length c) L) := h
  have HFew : Hid (L.length ≤ 200) := few
  have HSR : Hid (SrtI (L.map IT.m)) := hsr
  have HRq : Hid (Rd w q.v q.b) := hq
  have HRt : Hid (∀ w', Calls Tryz.prog 25 #[ov q] w' fun e w'' => e = .returned (.bool (rightO q)) ∧ Below w'.heap.size w' w'') := fun w' => right36 q w'
  have HGt : Hid (∀ w', Below w.heap.size w w' → Calls Tryz.prog 51 #[ptr tb, sv q.n] w' (GetAns w' L q.n)) := fun w' hb => get20 (h.below hb) q.n
  have HDr : Hid (∀ w', Below w.heap.size w w' → Calls Tryz.prog 52 #[ptr tb, sv q.p] w' fun e w'' => e = .returned (.bool (dirM (L.map IT.m) q.p)) ∧ Below w'.heap.size w' w'') := fun w' hb => dir37 (h.below hb) q.p
  have HWi : Hid (∀ w', Below w.heap.size w w' → Calls Tryz.prog 53 #[ptr tb, sv q.n, sv q.p] w' fun e w'' => e = .returned (.bool (withinM (L.map IT.m) 301 q.n q.p)) ∧ Below w'.heap.size w' w'') := fun w' hb => within22 (h.below hb) q.n q.p
  have HSt : Hid (∀ w' y, Below w.heap.size w w' → Rd w' y.v y.m.b → Calls Tryz.prog 54 #[ptr tb, iv y, .bool true] w' (SetAns w' tb L y true)) := fun w' y hb hy => set38 (h.below hb) (by omega) hsr y hy true
  clear h few hsr hq
  obtain ⟨w1, hw1⟩ : ∃ w1, w1 = (w.alloc (.cells (oc q).toArray 38)).alloc (.cells (ic zT).toArray 76) := ⟨_, rfl⟩
  obtain ⟨B0, hB0⟩ : ∃ B0, B0 = w.heap.size := ⟨_, rfl⟩
  obtain ⟨B1, hB1⟩ : ∃ B1, B1 = w.heap.size + 1 := ⟨_, rfl⟩
  obtain ⟨i1, i2, i3, i4⟩ := two_op41 hw1 hB0 hB1
  have HB1 : Hid (Below w.heap.size w w1) := i1
  have HQ1 : Hid (Opb w1 B0 q) := i2
  have HZ1 : Hid (Itb w1 B1 zT) := i3
  have HBB : Hid (w.heap.size ≤ B1) := i4
  have HQl : Hid (w1.rangeAt B0 0 (oc q)) := Blk.range0 i2
  clear i1 i2 i3 i4
  go_enter Tryz.func33, Tryz.ntmps33
  go_upto_region 1 with (first | (refine wpList_okw rfl (exec_box40 (q := q) (.tmp 1) rfl rfl) ?_) | (refine wpList_okw rfl (exec_alloc41 rfl) ?_))
  rw [← hw1, ← hB1]
  rw [← hB0]
  clear hw1 hB0 hB1
  cases hr : rightO q
  · rw [hr] at HRt
    have HHr : Hid (rightO q = false) := hr
    clear hr HSt HGt HDr HWi
    go_upto_region 2 with (first
      | (refine wpList_okw rfl (exec_load40 (q := q) (.tmp 3) rfl rfl HQl.out) ?_)
      | (go_at_call 25; go_must (refine (HRt.out _).mono ?_; rintro r w2 ⟨rfl, hb2⟩; have HB2 : Hid (Below w1.heap.size w1 w2) := hb2; clear hb2)))
    have HZ2 : Hid (Itb w2 B1 zT) := HZ1.out.below HB2.out
    have HT2 : Hid (w2.there B1 0 10) := HZ2.out.there
    have HPx : Hid (Itb (w2.setCells B1 0 (ic zT)) B1 zT) := HZ2.out.put
    have HBx : Hid (Below w.heap.size w (w2.setCells B1 0 (ic zT))) := below_put (bnext HB1.out HB2.out) HBB.out
    clear HRt HQl HZ1
    go_wp2_with (first
      | (refine wpList_okw rfl (exec_zero41 rfl) ?_)
      | (refine wpList_skipw rfl (exec_store41 (q := zT) (.tmp 4) (.tmp 13) rfl rfl rfl HT2.out) ?_))
    refine bodyPost_ret (v := .tuple #[iv zT, .bool false, .int .i64 1]) (HPx.out.ret12 rfl rfl rfl) rfl ⟨zT, false, 1, rfl, ?_⟩
    have hgx := below_grown HBx.out
    exact ⟨by rw [HHr.out, if_neg (by simp)]; rfl, by rw [HHr.out]; rfl, by rw [HHr.out, if_neg (by simp)], rd_nil _, _, L, HRT.out.below HBx.out, by unfold doM; rw [HHr.out, if_neg (by simp)], ⟨hgx.os, hgx.tape, hgx.output, hgx.size, fun k hk _ => hgx.block k hk (by simp)⟩⟩
  rw [hr] at HRt
  have HHr : Hid (rightO q = true) := hr
  clear hr
  go_upto_region 3 with (first
    | (refine wpList_okw rfl (exec_load40 (q := q) (.tmp 3) rfl rfl HQl.out) ?_)
    | (go_at_call 25; go_must (refine (HRt.out _).mono ?_; rintro r w2 ⟨rfl, hb2⟩; have HB2 : Hid (Below w1.heap.size w1 w2) := hb2; clear hb2)))
  have HQ2 : Hid (Opb w2 B0 q) := HQ1.out.below HB2.out
  have HQn : Hid (w2.rangeAt B0 3 (sc q.n)) := HQ2.out.node
  have HBy : Hid (Below w.heap.size w w2) := bnext HB1.out HB2.out
  clear HQl HRt HQ1
  have tk1 : Hid True := trivial
  have tk2 : Hid True := trivial
  have tk3 : Hid True := trivial
  have tk4 : Hid True := trivial
  go_upto_region 5 with (first
    | (refine wpList_okw rfl (exec_load24n (n := q.n) (.tmp 16) rfl rfl HQn.out) ?_)
    | (go_at_call 51; go_must (refine (HGt.out _ HBy.out).mono ?_; rintro r w3 ⟨x, b, rfl, hgt, hb3⟩; have HG : Hid (GotT w3 L q.n x b) := hgt; have HB3 : Hid (Below w2.heap.size w2 w3) := hb3; have HBz : Hid (Below w.heap.size w w3) := bnext HBy.out hb3; clear hb3 hgt; obtain ⟨w4, hw4⟩ : ∃ w4, w4 = w3.alloc (.cells (ic zT).toArray 76) := ⟨_, rfl⟩; obtain ⟨g, hg⟩ : ∃ g, g = w3.heap.size := ⟨_, rfl⟩; have HT4 : Hid (w4.there g 0 10) := (show _ from by rw [hw4, hg]; exact (itb_new w3 zT).there); have HW4 : Hid (w4 = w3.alloc (.cells (ic zT).toArray 76)) := hw4; have HGG : Hid (g = w3.heap.size) := hg; clear hw4 hg))
    | (clear tk1; refine wpList_okw rfl (exec_alloc41 rfl) ?_; rw [← HW4.out, ← HGG.out])
    | (clear tk2; refine wpList_skipw rfl (exec_store41 (q := x) (.tmp 7) (.tmp 19) rfl rfl rfl HT4.out) ?_; obtain ⟨w5, hw5⟩ : ∃ w5, w5 = w4.setCells g 0 (ic x) := ⟨_, rfl⟩; rw [← hw5]; obtain ⟨i1, i2, i3, i4⟩ := item_put HBz.out HW4.out HGG.out hw5; have HI5 : Hid (Itb w5 g x) := i1; have HR5 : Hid (w5.rangeAt g 0 (ic x)) := i1.range; have HB5 : Hid (Below w.heap.size w w5) := i2; have HB35 : Hid (Below w3.heap.size w3 w5) := i3; have HGL : Hid (w3.heap.size ≤ g ∧ w.heap.size ≤ g) := ⟨Nat.le_of_eq HGG.out.symm, i4⟩; obtain ⟨w6, hw6⟩ : ∃ w6, w6 = w5.alloc (.cells (ic zT).toArray 76) := ⟨_, rfl⟩; obtain ⟨g9, hg9⟩ : ∃ g9, g9 = w5.heap.size := ⟨_, rfl⟩; have HT6 : Hid (w6.there g9 0 10) := (show _ from by rw [hw6, hg9]; exact (itb_new w5 zT).there); have HW6 : Hid (w6 = w5.alloc (.cells (ic zT).toArray 76)) := hw6; have HG9 : Hid (g9 = w5.heap.size) := hg9; clear hw5 hw6 hg9 i1 i2 i3 i4 HT4 HW4 HGG)
    | (refine wpList_okw rfl (exec_load41 (q := x) (.tmp 7) rfl rfl HR5.out) ?_)
    | (clear tk3; refine wpList_okw rfl (exec_alloc41 rfl) ?_; rw [← HW6.out, ← HG9.out])
    | (clear tk4; refine wpList_skipw rfl (exec_store41 (q := x) (.tmp 9) (.tmp 21) rfl rfl rfl HT6.out) ?_; obtain ⟨w7, hw7⟩ : ∃ w7, w7 = w6.setCells g9 0 (ic x) := ⟨_, rfl⟩; rw [← hw7]; obtain ⟨i1, i2, i3, i4⟩ := item_put HB5.out HW6.out HG9.out hw7; have HI7 : Hid (Itb w7 g9 x) := i1; have HB7 : Hid (Below w.heap.size w w7) := i2; have HB57 : Hid (Below w5.heap.size w5 w7) := i3; have HNB : Hid (w5.heap.size ≤ g9 ∧ w.heap.size ≤ g9) := ⟨Nat.le_of_eq HG9.out.symm, i4⟩; clear hw7 i1 i2 i3 i4 HT6 HW6 HG9))
  have HB37 : Hid (Below w3.heap.size w3 w7) := bnext HB35.out HB57.out
  have HQ7 : Hid (Opb w7 B0 q) := HQ2.out.below (bnext HB3.out HB37.out)
  have HX7 : Hid (Itb w7 g x) := HI5.out.below HB57.out
  have HZ7 : Hid (Itb w7 B1 zT) := HZ1.out.below (bnext HB2.out (bnext HB3.out HB37.out))
  have HGNE : Hid (g9 ≠ g ∧ g9 ≠ B1 ∧ g9 ≠ B0) := by
    have h1 : g < w5.heap.size := Blk.lt HI5.out
    have h2 := HNB.out.1
    have h3 : B1 < w3.heap.size := Blk.lt (HZ1.out.below (bnext HB2.out HB3.out))
    have h4 : B0 < w3.heap.size := Blk.lt (HQ2.out.below HB3.out)
    have h5 := HB35.out.size
    exact ⟨by omega, by omega, by omega⟩
  have HB35_ : Hid (w3.heap.size ≤ w5.heap.size) := HB35.out.size
  clear HQ2 HI5 HZ1 HB57 HB35 HB3 HB2 HBy HQn HB1 HGt
  rcases rightO_k HHr.out with hk | hk | hk | hk
  · have HK : Hid (q.k = 1) := hk
    have c0 := Blk.cell HQ7.out 0 _ rfl
    rw [hk] at c0
    have HQp7 : Hid (w7.rangeAt B0 5 (sc q.p)) := HQ7.out.par
    clear hk HWi
    cases b
    · cases hd : dirM (L.map IT.m) q.p
      · have HD : Hid (dirM (L.map IT.m) q.p = false) := hd
        rw [hd] at HDr
        clear hd
        go_upto_region 8 with (first
          | (refine wpList_okw rfl (exec_load24n (n := q.p) (.tmp 29) rfl rfl HQp7.out) ?_)
          | (go_at_call 52; go_must (refine (HDr.out _ HB7.out).mono ?_; rintro r w8 ⟨rfl, hb8⟩; have HB78 : Hid (Below w7.heap.size w7 w8) := hb8; clear hb8; have HQp8 : Hid (w8.rangeAt B0 5 (sc q.p)) := (HQ7.out.below HB78.out).par; have HQn8 : Hid (w8.rangeAt B0 3 (sc q.n)) := (HQ7.out.below HB78.out).node)))
        have HQ8 : Hid (Opb w8 B0 q) := HQ7.out.below HB78.out
        have HX8 : Hid (Itb w8 g x) := HX7.out.below HB78.out
        have HZ8 : Hid (Itb w8 B1 zT) := HZ7.out.below HB78.out
        have HI8 : Hid (Itb w8 g9 x) := HI7.out.below HB78.out
        have HB8 : Hid (Below w.heap.size w w8) := bnext HB7.out HB78.out
        have HB38 : Hid (Below w3.heap.size w3 w8) := bnext HB37.out HB78.out
        have HRx : Hid (w8.rangeAt g 0 (ic x)) := HX8.out.range
        have HTx : Hid (w8.there B1 0 10) := HZ8.out.there
        have HPx : Hid (Itb (w8.setCells B1 0 (ic x)) B1 x) := HZ8.out.put
        have HEnd : Hid (RDo w tb L q x false 0 (w8.setCells B1 0 (ic x))) := rdo_none HRT.out HHr.out HG.out HB38.out HB8.out HZ8.out HBB.out (ch1_nod HK.out (by rw [HG.out.lost]; rfl) HD.out)
        go_wp2_with (first
          | (refine wpList_okw rfl (exec_load41 (q := x) (.tmp 7) rfl rfl HRx.out) ?_)
          | (refine wpList_skipw rfl (exec_store41 (q := x) (.tmp 4) (.tmp 34) rfl rfl rfl HTx.out) ?_))
        exact bodyPost_ret (v := .tuple #[iv x, .bool false, .int .i64 0]) (HPx.out.ret12 rfl rfl rfl) rfl ⟨x, false, 0, rfl, HEnd.out⟩
      · have HD : Hid (dirM (L.map IT.m) q.p = true) := hd
        rw [hd] at HDr
        clear hd
        go_upto_region 9 with (first
          | (refine wpList_okw rfl (exec_load24n (n := q.p) (.tmp 29) rfl rfl HQp7.out) ?_)
          | (go_at_call 52; go_must (refine (HDr.out _ HB7.out).mono ?_; rintro r w8 ⟨rfl, hb8⟩; have HB78 : Hid (Below w7.heap.size w7 w8) := hb8; clear hb8; have HQp8 : Hid (w8.rangeAt B0 5 (sc q.p)) := (HQ7.out.below HB78.out).par; have HQn8 : Hid (w8.rangeAt B0 3 (sc q.n)) := (HQ7.out.below HB78.out).node)))
        have HQ8 : Hid (Opb w8 B0 q) := HQ7.out.below HB78.out
        have HX8 : Hid (Itb w8 g x) := HX7.out.below HB78.out
        have HZ8 : Hid (Itb w8 B1 zT) := HZ7.out.below HB78.out
        have HI8 : Hid (Itb w8 g9 x) := HI7.out.below HB78.out
        have HB8 : Hid (Below w.heap.size w w8) := bnext HB7.out HB78.out
        have HB38 : Hid (Below w3.heap.size w3 w8) := bnext HB37.out HB78.out
        have t0 := (HRT.out.below HB8.out).blk.cell 0 _ rfl
        have hge : ¬ (300 : Int) ≤ (L.length : Int) := by have := HFew.out; omega
        have c7 := Blk.cell HQ8.out 7 _ rfl
        have c8 := Blk.cell HQ8.out 8 _ rfl
        obtain ⟨y, hy⟩ : ∃ y : IT, y = ⟨newI q, none, 0, 0⟩ := ⟨_, rfl⟩
        have HY : Hid (y = ⟨newI q, none, 0, 0⟩) := hy
        have HT9 : Hid (w8.there g9 0 10) := HI8.out.there
        obtain ⟨w9, hw9⟩ : ∃ w9, w9 = w8.setCells g9 0 (ic y) := ⟨_, rfl⟩
        have hgw9 : w8.grownBy w9 (some g9) := by rw [hw9]; exact grown_setCells _ _ _ _
        have HI9 : Hid (Itb w9 g9 y) := by show Itb _ _ _; rw [hw9]; exact HI8.out.put
        have HQ9 : Hid (Opb w9 B0 q) := Blk.past HQ8.out hgw9 (fun e => HGNE.out.2.2 e.symm)
        have HX9 : Hid (Itb w9 g x) := Blk.past HX8.out hgw9 (fun e => HGNE.out.1 e.symm)
        have HZ9 : Hid (Itb w9 B1 zT) := Blk.past HZ8.out hgw9 (fun e => HGNE.out.2.1 e.symm)
        have HB9 : Hid (Below w.heap.size w w9) := bgrown HB8.out HNB.out.2 hgw9
        have HB39 : Hid (Below w3.heap.size w3 w9) := bgrown HB38.out (Nat.le_trans HB35_.out HNB.out.1) hgw9
        have HW9 : Hid (w9 = w8.setCells g9 0 (ic y)) := hw9
        clear hw9 hgw9 hy
        go_upto_region 27 with (first
          | (refine wpList_okw rfl (exec_load24n (n := q.n) (.tmp 43) rfl rfl HQn8.out) ?_)
          | (refine wpList_okw rfl (exec_load24n (n := q.p) (.tmp 45) rfl rfl HQp8.out) ?_)
          | (refine wpList_okw rfl (exec_new41 (n := q.n) (p := q.p) (s := q.s) (d := q.d) (.tmp 44) (.tmp 46) (.tmp 48) (.tmp 50) rfl rfl rfl rfl rfl) ?_; rw [show (⟨⟨q.n, q.p, q.s, q.d, false, (0, 0), []⟩, none, 0, 0⟩ : IT) = y from HY.out.symm])
          | (refine wpList_skipw rfl (exec_store41 (q := y) (.tmp 9) (.tmp 51) rfl rfl rfl HT9.out) ?_; rw [← HW9.out]))
        have HRy : Hid (w9.rangeAt g9 0 (ic y)) := HI9.out.range
        have HSe : Hid (Calls Tryz.prog 54 #[ptr tb, iv y, .bool true] w9 (SetAns w9 tb L y true)) := HSt.out _ y HB9.out (by rw [HY.out]; exact rd_nil _)
        have HFin : Hid (∀ wt, (∃ v', RTr wt tb v' (setT L y true) ∧ w9.grownBy wt (some tb) ∧ ∀ k, v'.ownBlock = some k → w9.heap.size ≤ k) → Itb wt g x ∧ Itb wt B1 zT ∧ RDo w tb L q x false 0 (wt.setCells B1 0 (ic x))) := fun wt hs => by
          have h1 := rdo_some HRT.out HHr.out HG.out HB39.out HB9.out HZ9.out HBB.out (ch1_new HK.out (by rw [HG.out.lost]; rfl) HD.out) (by rw [HY.out]) hs (fun n => by simp)
          obtain ⟨_, _, hG, _⟩ := hs
          have hlt : tb < w.heap.size := Blk.lt HRT.out.blk
          have hgl := HGL.out.2
          exact ⟨Blk.past HX9.out hG (by omega), h1.1, h1.2⟩
        go_wp2_with (first
          | (refine wpList_okw rfl (exec_load41 (q := y) (.tmp 9) rfl rfl HRy.out) ?_)
          | (go_at_call 54; go_must (refine HSe.out.mono ?_; rintro r wt ⟨rfl, hs⟩; obtain ⟨i1, i2, i3⟩ := HFin.out wt hs; have HRx : Hid (wt.rangeAt g 0 (ic x)) := i1.range; have HTx : Hid (wt.there B1 0 10) := i2.there; have HPx : Hid (Itb (wt.setCells B1 0 (ic x)) B1 x) := i2.put; have HEnd : Hid (RDo w tb L q x false 0 (wt.setCells B1 0 (ic x))) := i3; clear hs i1 i2 i3))
          | (refine wpList_okw rfl (exec_load41 (q := x) (.tmp 7) rfl rfl HRx.out) ?_)
          | (refine wpList_skipw rfl (exec_store41 (q := x) (.tmp 4) (.tmp 106) rfl rfl rfl HTx.out) ?_))
        exact bodyPost_ret (v := .tuple #[iv x, .bool false, .int .i64 0]) (HPx.out.ret12 rfl rfl rfl) rfl ⟨x, false, 0, rfl, HEnd.out⟩
    · have z0 : True := trivial
      have HB37_ : Hid True := trivial
      have HRx : Hid (w7.rangeAt g 0 (ic x)) := HX7.out.range
      have HTx : Hid (w7.there B1 0 10) := HZ7.out.there
      have HPx : Hid (Itb (w7.setCells B1 0 (ic x)) B1 x) := HZ7.out.put
      have HEnd : Hid (RDo w tb L q x true 0 (w7.setCells B1 0 (ic x))) := rdo_none HRT.out HHr.out HG.out HB37.out HB7.out HZ7.out HBB.out (ch1_has HK.out (by rw [HG.out.found]; rfl))
      go_wp2_with (first
        | (refine wpList_okw rfl (exec_load41 (q := x) (.tmp 7) rfl rfl HRx.out) ?_)
        | (refine wpList_skipw rfl (exec_store41 (q := x) (.tmp 4) (.tmp 34) rfl rfl rfl HTx.out) ?_))
      exact bodyPost_ret (v := .tuple #[iv x, .bool true, .int .i64 0]) (HPx.out.ret12 rfl rfl rfl) rfl ⟨x, true, 0, rfl, HEnd.out⟩
  · have HK : Hid (q.k = 2) := hk
    have c0 := Blk.cell HQ7.out 0 _ rfl
    rw [hk] at c0
    have HQp7 : Hid (w7.rangeAt B0 5 (sc q.p)) := HQ7.out.par
    clear hk
    cases b
    · have z0 : True := trivial
      have HRx : Hid (w7.rangeAt g 0 (ic x)) := HX7.out.range
      have HTx : Hid (w7.there B1 0 10) := HZ7.out.there
      have HPx : Hid (Itb (w7.setCells B1 0 (ic x)) B1 x) := HZ7.out.put
      have HEnd : Hid (RDo w tb L q x false 0 (w7.setCells B1 0 (ic x))) := rdo_none HRT.out HHr.out HG.out HB37.out HB7.out HZ7.out HBB.out (chx_no (by have := HK.out; omega) HG.out.lost)
      go_wp2_with (first
        | (refine wpList_okw rfl (exec_load41 (q := x) (.tmp 7) rfl rfl HRx.out) ?_)
        | (refine wpList_skipw rfl (exec_store41 (q := x) (.tmp 4) (.tmp 71) rfl rfl rfl HTx.out) ?_))
      exact bodyPost_ret (v := .tuple #[iv x, .bool false, .int .i64 0]) (HPx.out.ret12 rfl rfl rfl) rfl ⟨x, false, 0, rfl, HEnd.out⟩
    · cases hd : dirM (L.map IT.m) q.p
      · have HD : Hid (dirM (L.map IT.m) q.p = false) := hd
        rw [hd] at HDr
        clear hd
        go_upto_region 14 with (first
          | (refine wpList_okw rfl (exec_load24n (n := q.p) (.tmp 58) rfl rfl HQp7.out) ?_)
          | (go_at_call 52; go_must (refine (HDr.out _ HB7.out).mono ?_; rintro r w8 ⟨rfl, hb8⟩; have HB78 : Hid (Below w7.heap.size w7 w8) := hb8; clear hb8; have HQp8 : Hid (w8.rangeAt B0 5 (sc q.p)) := (HQ7.out.below HB78.out).par; have HQn8 : Hid (w8.rangeAt B0 3 (sc q.n)) := (HQ7.out.below HB78.out).node)))
        have HQ8 : Hid (Opb w8 B0 q) := HQ7.out.below HB78.out
        have HX8 : Hid (Itb w8 g x) := HX7.out.below HB78.out
        have HZ8 : Hid (Itb w8 B1 zT) := HZ7.out.below HB78.out
        have HI8 : Hid (Itb w8 g9 x) := HI7.out.below HB78.out
        have HB8 : Hid (Below w.heap.size w w8) := bnext HB7.out HB78.out
        have HB38 : Hid (Below w3.heap.size w3 w8) := bnext HB37.out HB78.out
        have HRx : Hid (w8.rangeAt g 0 (ic x)) := HX8.out.range
        have HTx : Hid (w8.there B1 0 10) := HZ8.out.there
        have HPx : Hid (Itb (w8.setCells B1 0 (ic x)) B1 x) := HZ8.out.put
        have HEnd : Hid (RDo w tb L q x true 0 (w8.setCells B1 0 (ic x))) := rdo_none HRT.out HHr.out HG.out HB38.out HB8.out HZ8.out HBB.out (ch2_nod HK.out HG.out.found HD.out)
        go_wp2_with (first
          | (refine wpList_okw rfl (exec_load41 (q := x) (.tmp 7) rfl rfl HRx.out) ?_)
          | (refine wpList_skipw rfl (exec_store41 (q := x) (.tmp 4) (.tmp 71) rfl rfl rfl HTx.out) ?_))
        exact bodyPost_ret (v := .tuple #[iv x, .bool true, .int .i64 0]) (HPx.out.ret12 rfl rfl rfl) rfl ⟨x, true, 0, rfl, HEnd.out⟩
      · have HD : Hid (dirM (L.map IT.m) q.p = true) := hd
        rw [hd] at HDr
        clear hd
        cases hw : withinM (L.map IT.m) 301 q.n q.p
        · have HW : Hid (withinM (L.map IT.m) 301 q.n q.p = false) := hw
          rw [hw] at HWi
          clear hw
          go_upto_region 15 with (first
            | (refine wpList_okw rfl (exec_load24n (n := q.p) (.tmp 58) rfl rfl HQp7.out) ?_)
            | (go_at_call 52; go_must (refine (HDr.out _ HB7.out).mono ?_; rintro r w8 ⟨rfl, hb8⟩; have HB78 : Hid (Below w7.heap.size w7 w8) := hb8; clear hb8; have HQp8 : Hid (w8.rangeAt B0 5 (sc q.p)) := (HQ7.out.below HB78.out).par; have HQn8 : Hid (w8.rangeAt B0 3 (sc q.n)) := (HQ7.out.below HB78.out).node))
            | (refine wpList_okw rfl (exec_load24n (n := q.n) (.tmp 65) rfl rfl HQn8.out) ?_)
            | (refine wpList_okw rfl (exec_load24n (n := q.p) (.tmp 67) rfl rfl HQp8.out) ?_)
            | (go_at_call 53; go_must (refine (HWi.out _ (bnext HB7.out HB78.out)).mono ?_; rintro r w9 ⟨rfl, hb9⟩; have HB79 : Hid (Below w7.heap.size w7 w9) := bnext HB78.out hb9; clear hb9)))
          have HQ9 : Hid (Opb w9 B0 q) := HQ7.out.below HB79.out
          have HX9 : Hid (Itb w9 g x) := HX7.out.below HB79.out
          have HZ9 : Hid (Itb w9 B1 zT) := HZ7.out.below HB79.out
          have HI9 : Hid (Itb w9 g9 x) := HI7.out.below HB79.out
          have HB9 : Hid (Below w.heap.size w w9) := bnext HB7.out HB79.out
          have HB39 : Hid (Below w3.heap.size w3 w9) := bnext HB37.out HB79.out
          have HQpr : Hid (w9.rangeAt B0 5 (sc q.p)) := HQ9.out.par
          have hI9 := HI9.out
          have HT9 : Hid (w9.there g9 2 2) := Blk.there HI9.out 2 2 (by rw [ic_len]; omega)
          obtain ⟨wa, hwa⟩ : ∃ wa, wa = w9.setCells g9 2 (sc q.p) := ⟨_, rfl⟩
          have hgwa : w9.grownBy wa (some g9) := by rw [hwa]; exact grown_setCells _ _ _ _
          have hIa := hI9.setPar (p := q.p)
          rw [← hwa] at hIa
          have HQa : Hid (Opb wa B0 q) := Blk.past HQ9.out hgwa (fun e => HGNE.out.2.2 e.symm)
          have HXa : Hid (Itb wa g x) := Blk.past HX9.out hgwa (fun e => HGNE.out.1 e.symm)
          have HZa : Hid (Itb wa B1 zT) := Blk.past HZ9.out hgwa (fun e => HGNE.out.2.1 e.symm)
          have HBa : Hid (Below w.heap.size w wa) := bgrown HB9.out HNB.out.2 hgwa
          have HB3a : Hid (Below w3.heap.size w3 wa) := bgrown HB39.out (Nat.le_trans HB35_.out HNB.out.1) hgwa
          have HWa : Hid (wa = w9.setCells g9 2 (sc q.p)) := hwa
          clear hwa hgwa
          have HCa : Hid (wa.cell? ⟨g9, 4, none⟩ = some (.string x.m.s) ∧ wa.frozen? ⟨g9, 4, none⟩ = false) := ⟨Blk.cell hIa 4 _ rfl, Blk.frozen hIa 4⟩
          have c8 := Blk.cell HQa.out 8 _ rfl
          obtain ⟨wb, hwb⟩ : ∃ wb, wb = wa.setCell ⟨g9, 4, none⟩ (.string q.s) := ⟨_, rfl⟩
          have hgwb : wa.grownBy wb (some g9) := by rw [hwb]; exact grown_setCell _ _ _ _
          have hIb := hIa.setName (s := q.s)
          rw [← hwb] at hIb
          have HQb : Hid (Opb wb B0 q) := Blk.past HQa.out hgwb (fun e => HGNE.out.2.2 e.symm)
          have HXb : Hid (Itb wb g x) := Blk.past HXa.out hgwb (fun e => HGNE.out.1 e.symm)
          have HZb : Hid (Itb wb B1 zT) := Blk.past HZa.out hgwb (fun e => HGNE.out.2.1 e.symm)
          have HBb : Hid (Below w.heap.size w wb) := bgrown HBa.out HNB.out.2 hgwb
          have HB3b : Hid (Below w3.heap.size w3 wb) := bgrown HB3a.out (Nat.le_trans HB35_.out HNB.out.1) hgwb
          have HWb : Hid (wb = wa.setCell ⟨g9, 4, none⟩ (.string q.s)) := hwb
          clear hwb hgwb
          have HCb : Hid (wb.cell? ⟨g9, 6, none⟩ = some (.bool x.m.g) ∧ wb.frozen? ⟨g9, 6, none⟩ = false) := ⟨Blk.cell hIb 6 _ rfl, Blk.frozen hIb 6⟩
          obtain ⟨wc, hwc⟩ : ∃ wc, wc = wb.setCell ⟨g9, 6, none⟩ (.bool false) := ⟨_, rfl⟩
          have hgwc : wb.grownBy wc (some g9) := by rw [hwc]; exact grown_setCell _ _ _ _
          have hIc := hIb.setGone (g := false)
          rw [← hwc] at hIc
          have HQc : Hid (Opb wc B0 q) := Blk.past HQb.out hgwc (fun e => HGNE.out.2.2 e.symm)
          have HXc : Hid (Itb wc g x) := Blk.past HXb.out hgwc (fun e => HGNE.out.1 e.symm)
          have HZc : Hid (Itb wc B1 zT) := Blk.past HZb.out hgwc (fun e => HGNE.out.2.1 e.symm)
          have HBc : Hid (Below w.heap.size w wc) := bgrown HBb.out HNB.out.2 hgwc
          have HB3c : Hid (Below w3.heap.size w3 wc) := bgrown HB3b.out (Nat.le_trans HB35_.out HNB.out.1) hgwc
          have HWc : Hid (wc = wb.setCell ⟨g9, 6, none⟩ (.bool false)) := hwc
          clear hwc hgwc
          obtain ⟨y, hy⟩ : ∃ y : IT, y = ⟨movI x.m q, x.a, x.vn, x.vc⟩ := ⟨_, rfl⟩
          have HIc : Hid (Itb wc g9 y) := by show Itb _ _ _; rw [hy]; exact hIc
          have HY : Hid (y = ⟨movI x.m q, x.a, x.vn, x.vc⟩) := hy
          clear hy hI9 hIa hIb hIc
          go_upto_region 27 with (first
            | (refine wpList_okw rfl (exec_load24n (n := q.p) (.tmp 73) rfl rfl HQpr.out) ?_)
            | (refine wpList_skipw rfl (exec_store24n (n := q.p) (.tmp 75) (.tmp 74) rfl rfl rfl HT9.out) ?_; rw [← HWa.out])
            | (refine wpList_skipw rfl (exec_store9 (s := q.s) (.tmp 78) (.tmp 77) rfl rfl rfl HCa.out.1 HCa.out.2) ?_; rw [← HWb.out])
            | (refine wpList_skipw rfl (exec_store4 (s := false) (.tmp 79) (.const (.bool false)) rfl rfl rfl HCb.out.1 HCb.out.2) ?_; rw [← HWc.out]))
          have HRy : Hid (wc.rangeAt g9 0 (ic y)) := HIc.out.range
          have HSe : Hid (Calls Tryz.prog 54 #[ptr tb, iv y, .bool true] wc (SetAns wc tb L y true)) := HSt.out _ y HBc.out (by rw [HY.out]; exact HG.out.rd.below HB3c.out)
          have HFin : Hid (∀ wt, (∃ v', RTr wt tb v' (setT L y true) ∧ wc.grownBy wt (some tb) ∧ ∀ k, v'.ownBlock = some k → wc.heap.size ≤ k) → Itb wt g x ∧ Itb wt B1 zT ∧ RDo w tb L q x true 0 (wt.setCells B1 0 (ic x))) := fun wt hs => by
            have h1 := rdo_some HRT.out HHr.out HG.out HB3c.out HBc.out HZc.out HBB.out (ch2_mov HK.out HG.out.found HD.out HW.out) (by rw [HY.out]) hs (fun n => by simp)
            obtain ⟨_, _, hG, _⟩ := hs
            have hlt : tb < w.heap.size := Blk.lt HRT.out.blk
            have hgl := HGL.out.2
            exact ⟨Blk.past HXc.out hG (by omega), h1.1, h1.2⟩
          go_wp2_with (first
            | (refine wpList_okw rfl (exec_load41 (q := y) (.tmp 9) rfl rfl HRy.out) ?_)
            | (go_at_call 54; go_must (refine HSe.out.mono ?_; rintro r wt ⟨rfl, hs⟩; obtain ⟨i1, i2, i3⟩ := HFin.out wt hs; have HRx : Hid (wt.rangeAt g 0 (ic x)) := i1.range; have HTx : Hid (wt.there B1 0 10) := i2.there; have HPx : Hid (Itb (wt.setCells B1 0 (ic x)) B1 x) := i2.put; have HEnd : Hid (RDo w tb L q x true 0 (wt.setCells B1 0 (ic x))) := i3; clear hs i1 i2 i3))
            | (refine wpList_okw rfl (exec_load41 (q := x) (.tmp 7) rfl rfl HRx.out) ?_)
            | (refine wpList_skipw rfl (exec_store41 (q := x) (.tmp 4) (.tmp 106) rfl rfl rfl HTx.out) ?_))
          exact bodyPost_ret (v := .tuple #[iv x, .bool true, .int .i64 0]) (HPx.out.ret12 rfl rfl rfl) rfl ⟨x, true, 0, rfl, HEnd.out⟩
        · have HW : Hid (withinM (L.map IT.m) 301 q.n q.p = true) := hw
          rw [hw] at HWi
          clear hw
          go_upto_region 14 with (first
            | (refine wpList_okw rfl (exec_load24n (n := q.p) (.tmp 58) rfl rfl HQp7.out) ?_)
            | (go_at_call 52; go_must (refine (HDr.out _ HB7.out).mono ?_; rintro r w8 ⟨rfl, hb8⟩; have HB78 : Hid (Below w7.heap.size w7 w8) := hb8; clear hb8; have HQp8 : Hid (w8.rangeAt B0 5 (sc q.p)) := (HQ7.out.below HB78.out).par; have HQn8 : Hid (w8.rangeAt B0 3 (sc q.n)) := (HQ7.out.below HB78.out).node))
            | (refine wpList_okw rfl (exec_load24n (n := q.n) (.tmp 65) rfl rfl HQn8.out) ?_)
            | (refine wpList_okw rfl (exec_load24n (n := q.p) (.tmp 67) rfl rfl HQp8.out) ?_)
            | (go_at_call 53; go_must (refine (HWi.out _ (bnext HB7.out HB78.out)).mono ?_; rintro r w9 ⟨rfl, hb9⟩; have HB79 : Hid (Below w7.heap.size w7 w9) := bnext HB78.out hb9; clear hb9)))
          have HQ9 : Hid (Opb w9 B0 q) := HQ7.out.below HB79.out
          have HX9 : Hid (Itb w9 g x) := HX7.out.below HB79.out
          have HZ9 : Hid (Itb w9 B1 zT) := HZ7.out.below HB79.out
          have HI9 : Hid (Itb w9 g9 x) := HI7.out.below HB79.out
          have HB9 : Hid (Below w.heap.size w w9) := bnext HB7.out HB79.out
          have HB39 : Hid (Below w3.heap.size w3 w9) := bnext HB37.out HB79.out
          have HRx : Hid (w9.rangeAt g 0 (ic x)) := HX9.out.range
          have HTx : Hid (w9.there B1 0 10) := HZ9.out.there
          have HPx : Hid (Itb (w9.setCells B1 0 (ic x)) B1 x) := HZ9.out.put
          have HEnd : Hid (RDo w tb L q x true 0 (w9.setCells B1 0 (ic x))) := rdo_none HRT.out HHr.out HG.out HB39.out HB9.out HZ9.out HBB.out (ch2_in HK.out HG.out.found HD.out HW.out)
          go_wp2_with (first
            | (refine wpList_okw rfl (exec_load41 (q := x) (.tmp 7) rfl rfl HRx.out) ?_)
            | (refine wpList_skipw rfl (exec_store41 (q := x) (.tmp 4) (.tmp 71) rfl rfl rfl HTx.out) ?_))
          exact bodyPost_ret (v := .tuple #[iv x, .bool true, .int .i64 0]) (HPx.out.ret12 rfl rfl rfl) rfl ⟨x, true, 0, rfl, HEnd.out⟩
  · have HK : Hid (q.k = 3) := hk
    have c0 := Blk.cell HQ7.out 0 _ rfl
    rw [hk] at c0
    clear hk HWi HDr
    cases b
    · have z0 : True := trivial
      have HRx : Hid (w7.rangeAt g 0 (ic x)) := HX7.out.range
      have HTx : Hid (w7.there B1 0 10) := HZ7.out.there
      have HPx : Hid (Itb (w7.setCells B1 0 (ic x)) B1 x) := HZ7.out.put
      have HEnd : Hid (RDo w tb L q x false 0 (w7.setCells B1 0 (ic x))) := rdo_none HRT.out HHr.out HG.out HB37.out HB7.out HZ7.out HBB.out (chx_no (by have := HK.out; omega) HG.out.lost)
      go_wp2_with (first
        | (refine wpList_okw rfl (exec_load41 (q := x) (.tmp 7) rfl rfl HRx.out) ?_)
        | (refine wpList_skipw rfl (exec_store41 (q := x) (.tmp 4) (.tmp 84) rfl rfl rfl HTx.out) ?_))
      exact bodyPost_ret (v := .tuple #[iv x, .bool false, .int .i64 0]) (HPx.out.ret12 rfl rfl rfl) rfl ⟨x, false, 0, rfl, HEnd.out⟩
    · have hI7 := HI7.out
      have HC7 : Hid (w7.cell? ⟨g9, 6, none⟩ = some (.bool x.m.g) ∧ w7.frozen? ⟨g9, 6, none⟩ = false) := ⟨Blk.cell hI7 6 _ rfl, Blk.frozen hI7 6⟩
      obtain ⟨wa, hwa⟩ : ∃ wa, wa = w7.setCell ⟨g9, 6, none⟩ (.bool true) := ⟨_, rfl⟩
      have hgwa : w7.grownBy wa (some g9) := by rw [hwa]; exact grown_setCell _ _ _ _
      have hIa := hI7.setGone (g := true)
      rw [← hwa] at hIa
      have HQa : Hid (Opb wa B0 q) := Blk.past HQ7.out hgwa (fun e => HGNE.out.2.2 e.symm)
      have HXa : Hid (Itb wa g x) := Blk.past HX7.out hgwa (fun e => HGNE.out.1 e.symm)
      have HZa : Hid (Itb wa B1 zT) := Blk.past HZ7.out hgwa (fun e => HGNE.out.2.1 e.symm)
      have HBa : Hid (Below w.heap.size w wa) := bgrown HB7.out HNB.out.2 hgwa
      have HB3a : Hid (Below w3.heap.size w3 wa) := bgrown HB37.out (Nat.le_trans HB35_.out HNB.out.1) hgwa
      have HWa : Hid (wa = w7.setCell ⟨g9, 6, none⟩ (.bool true)) := hwa
      clear hwa hgwa
      obtain ⟨y, hy⟩ : ∃ y : IT, y = ⟨remI x.m, x.a, x.vn, x.vc⟩ := ⟨_, rfl⟩
      have HIa : Hid (Itb wa g9 y) := by show Itb _ _ _; rw [hy]; exact hIa
      have HY : Hid (y = ⟨remI x.m, x.a, x.vn, x.vc⟩) := hy
      clear hy hI7 hIa
      go_upto_region 27 with (first
        | (refine wpList_skipw rfl (exec_store4 (s := true) (.tmp 86) (.const (.bool true)) rfl rfl rfl HC7.out.1 HC7.out.2) ?_; rw [← HWa.out]))
      have HRy : Hid (wa.rangeAt g9 0 (ic y)) := HIa.out.range
      have HSe : Hid (Calls Tryz.prog 54 #[ptr tb, iv y, .bool true] wa (SetAns wa tb L y true)) := HSt.out _ y HBa.out (by rw [HY.out]; exact HG.out.rd.below HB3a.out)
      have HFin : Hid (∀ wt, (∃ v', RTr wt tb v' (setT L y true) ∧ wa.grownBy wt (some tb) ∧ ∀ k, v'.ownBlock = some k → wa.heap.size ≤ k) → Itb wt g x ∧ Itb wt B1 zT ∧ RDo w tb L q x true 0 (wt.setCells B1 0 (ic x))) := fun wt hs => by
        have h1 := rdo_some HRT.out HHr.out HG.out HB3a.out HBa.out HZa.out HBB.out (ch3_rem HK.out HG.out.found) (by rw [HY.out]) hs (fun n => by simp)
        obtain ⟨_, _, hG, _⟩ := hs
        have hlt : tb < w.heap.size := Blk.lt HRT.out.blk
        have hgl := HGL.out.2
        exact ⟨Blk.past HXa.out hG (by omega), h1.1, h1.2⟩
      go_wp2_with (first
        | (refine wpList_okw rfl (exec_load41 (q := y) (.tmp 9) rfl rfl HRy.out) ?_)
        | (go_at_call 54; go_must (refine HSe.out.mono ?_; rintro r wt ⟨rfl, hs⟩; obtain ⟨i1, i2, i3⟩ := HFin.out wt hs; have HRx : Hid (wt.rangeAt g 0 (ic x)) := i1.range; have HTx : Hid (wt.there B1 0 10) := i2.there; have HPx : Hid (Itb (wt.setCells B1 0 (ic x)) B1 x) := i2.put; have HEnd : Hid (RDo w tb L q x true 0 (wt.setCells B1 0 (ic x))) := i3; clear hs i1 i2 i3))
        | (refine wpList_okw rfl (exec_load41 (q := x) (.tmp 7) rfl rfl HRx.out) ?_)
        | (refine wpList_skipw rfl (exec_store41 (q := x) (.tmp 4) (.tmp 106) rfl rfl rfl HTx.out) ?_))
      exact bodyPost_ret (v := .tuple #[iv x, .bool true, .int .i64 0]) (HPx.out.ret12 rfl rfl rfl) rfl ⟨x, true, 0, rfl, HEnd.out⟩
  · have HK : Hid (q.k = 4) := hk
    have c0 := Blk.cell HQ7.out 0 _ rfl
    rw [hk] at c0
    clear hk HWi HDr
    have c5 := Blk.cell HX7.out 5 _ rfl
    cases b
    · have z0 : True := trivial
      have HRx : Hid (w7.rangeAt g 0 (ic x)) := HX7.out.range
      have HTx : Hid (w7.there B1 0 10) := HZ7.out.there
      have HPx : Hid (Itb (w7.setCells B1 0 (ic x)) B1 x) := HZ7.out.put
      have HEnd : Hid (RDo w tb L q x false 0 (w7.setCells B1 0 (ic x))) := rdo_none HRT.out HHr.out HG.out HB37.out HB7.out HZ7.out HBB.out (chx_no (by have := HK.out; omega) HG.out.lost)
      go_wp2_with (first
        | (refine wpList_okw rfl (exec_load41 (q := x) (.tmp 7) rfl rfl HRx.out) ?_)
        | (refine wpList_skipw rfl (exec_store41 (q := x) (.tmp 4) (.tmp 95) rfl rfl rfl HTx.out) ?_))
      exact bodyPost_ret (v := .tuple #[iv x, .bool false, .int .i64 0]) (HPx.out.ret12 rfl rfl rfl) rfl ⟨x, false, 0, rfl, HEnd.out⟩
    · cases hd : x.m.d
      · have HD : Hid (x.m.d = false) := hd
        rw [hd] at c5
        clear hd
        have hI7 := HI7.out
        have c9 := Blk.cell HQ7.out 9 _ rfl
        have HC7 : Hid (w7.cell? ⟨g9, 7, none⟩ = some (.slice x.a x.vn x.vc) ∧ w7.frozen? ⟨g9, 7, none⟩ = false) := ⟨Blk.cell hI7 7 _ rfl, Blk.frozen hI7 7⟩
        obtain ⟨wa, hwa⟩ : ∃ wa, wa = w7.setCell ⟨g9, 7, none⟩ (.slice q.va q.vn q.vc) := ⟨_, rfl⟩
        have hgwa : w7.grownBy wa (some g9) := by rw [hwa]; exact grown_setCell _ _ _ _
        have hIa := hI7.setData (a := q.va) (n := q.vn) (c := q.vc) (l := q.b)
        rw [← hwa] at hIa
        have HQa : Hid (Opb wa B0 q) := Blk.past HQ7.out hgwa (fun e => HGNE.out.2.2 e.symm)
        have HXa : Hid (Itb wa g x) := Blk.past HX7.out hgwa (fun e => HGNE.out.1 e.symm)
        have HZa : Hid (Itb wa B1 zT) := Blk.past HZ7.out hgwa (fun e => HGNE.out.2.1 e.symm)
        have HBa : Hid (Below w.heap.size w wa) := bgrown HB7.out HNB.out.2 hgwa
        have HB3a : Hid (Below w3.heap.size w3 wa) := bgrown HB37.out (Nat.le_trans HB35_.out HNB.out.1) hgwa
        have HWa : Hid (wa = w7.setCell ⟨g9, 7, none⟩ (.slice q.va q.vn q.vc)) := hwa
        clear hwa hgwa
        have HQat : Hid (wa.rangeAt B0 1 (sc q.a)) := HQa.out.at
        have HTa : Hid (wa.there g9 8 2) := Blk.there hIa 8 2 (by rw [ic_len]; omega)
        obtain ⟨wb, hwb⟩ : ∃ wb, wb = wa.setCells g9 8 (sc q.a) := ⟨_, rfl⟩
        have hgwb : wa.grownBy wb (some g9) := by rw [hwb]; exact grown_setCells _ _ _ _
        have hIb := hIa.setBy (p := q.a)
        rw [← hwb] at hIb
        have HQb : Hid (Opb wb B0 q) := Blk.past HQa.out hgwb (fun e => HGNE.out.2.2 e.symm)
        have HXb : Hid (Itb wb g x) := Blk.past HXa.out hgwb (fun e => HGNE.out.1 e.symm)
        have HZb : Hid (Itb wb B1 zT) := Blk.past HZa.out hgwb (fun e => HGNE.out.2.1 e.symm)
        have HBb : Hid (Below w.heap.size w wb) := bgrown HBa.out HNB.out.2 hgwb
        have HB3b : Hid (Below w3.heap.size w3 wb) := bgrown HB3a.out (Nat.le_trans HB35_.out HNB.out.1) hgwb
        have HWb : Hid (wb = wa.setCells g9 8 (sc q.a)) := hwb
        clear hwb hgwb
        obtain ⟨y, hy⟩ : ∃ y : IT, y = ⟨wriI x.m q, q.va, q.vn, q.vc⟩ := ⟨_, rfl⟩
        have HIb : Hid (Itb wb g9 y) := by show Itb _ _ _; rw [hy]; exact hIb
        have HY : Hid (y = ⟨wriI x.m q, q.va, q.vn, q.vc⟩) := hy
        clear hy hI7 hIa hIb
        go_upto_region 27 with (first
          | (refine wpList_skipw rfl (exec_store33 (.tmp 99) (.tmp 98) rfl rfl rfl HC7.out.1 HC7.out.2) ?_; rw [← HWa.out])
          | (refine wpList_okw rfl (exec_load24n (n := q.a) (.tmp 100) rfl rfl HQat.out) ?_)
          | (refine wpList_skipw rfl (exec_store24n (n := q.a) (.tmp 102) (.tmp 101) rfl rfl rfl HTa.out) ?_; rw [← HWb.out]))
        have HRy : Hid (wb.rangeAt g9 0 (ic y)) := HIb.out.range
        have HSe : Hid (Calls Tryz.prog 54 #[ptr tb, iv y, .bool true] wb (SetAns wb tb L y true)) := HSt.out _ y HBb.out (by rw [HY.out]; exact HRq.out.below HBb.out)
        have HFin : Hid (∀ wt, (∃ v', RTr wt tb v' (setT L y true) ∧ wb.grownBy wt (some tb) ∧ ∀ k, v'.ownBlock = some k → wb.heap.size ≤ k) → Itb wt g x ∧ Itb wt B1 zT ∧ RDo w tb L q x true 0 (wt.setCells B1 0 (ic x))) := fun wt hs => by
          have h1 := rdo_some HRT.out HHr.out HG.out HB3b.out HBb.out HZb.out HBB.out (ch4_wri HK.out HG.out.found HD.out) (by rw [HY.out]) hs (fun n => by simp)
          obtain ⟨_, _, hG, _⟩ := hs
          have hlt : tb < w.heap.size := Blk.lt HRT.out.blk
          have hgl := HGL.out.2
          exact ⟨Blk.past HXb.out hG (by omega), h1.1, h1.2⟩
        go_wp2_with (first
          | (refine wpList_okw rfl (exec_load41 (q := y) (.tmp 9) rfl rfl HRy.out) ?_)
          | (go_at_call 54; go_must (refine HSe.out.mono ?_; rintro r wt ⟨rfl, hs⟩; obtain ⟨i1, i2, i3⟩ := HFin.out wt hs; have HRx : Hid (wt.rangeAt g 0 (ic x)) := i1.range; have HTx : Hid (wt.there B1 0 10) := i2.there; have HPx : Hid (Itb (wt.setCells B1 0 (ic x)) B1 x) := i2.put; have HEnd : Hid (RDo w tb L q x true 0 (wt.setCells B1 0 (ic x))) := i3; clear hs i1 i2 i3))
          | (refine wpList_okw rfl (exec_load41 (q := x) (.tmp 7) rfl rfl HRx.out) ?_)
          | (refine wpList_skipw rfl (exec_store41 (q := x) (.tmp 4) (.tmp 106) rfl rfl rfl HTx.out) ?_))
        exact bodyPost_ret (v := .tuple #[iv x, .bool true, .int .i64 0]) (HPx.out.ret12 rfl rfl rfl) rfl ⟨x, true, 0, rfl, HEnd.out⟩
      · have HD : Hid (x.m.d = true) := hd
        rw [hd] at c5
        clear hd
        have HRx : Hid (w7.rangeAt g 0 (ic x)) := HX7.out.range
        have HTx : Hid (w7.there B1 0 10) := HZ7.out.there
        have HPx : Hid (Itb (w7.setCells B1 0 (ic x)) B1 x) := HZ7.out.put
        have HEnd : Hid (RDo w tb L q x true 0 (w7.setCells B1 0 (ic x))) := rdo_none HRT.out HHr.out HG.out HB37.out HB7.out HZ7.out HBB.out (ch4_dir HK.out HG.out.found HD.out)
        go_wp2_with (first
          | (refine wpList_okw rfl (exec_load41 (q := x) (.tmp 7) rfl rfl HRx.out) ?_)
          | (refine wpList_skipw rfl (exec_store41 (q := x) (.tmp 4) (.tmp 95) rfl rfl rfl HTx.out) ?_))
        exact bodyPost_ret (v := .tuple #[iv x, .bool true, .int .i64 0]) (HPx.out.ret12 rfl rfl rfl) rfl ⟨x, true, 0, rfl, HEnd.out⟩
end Go.Proofs.YthnjbjlhfohpfaaGreat
