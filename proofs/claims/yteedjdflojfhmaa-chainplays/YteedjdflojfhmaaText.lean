/-
  A writer of fields: what it has put (Fld); some numbers, an epoch, and what a sealed body is bound to.
  What a sealed body is bound to: Bound.
  The text of an entry, put into a writer of fields.
-/
import Derived.Test.YteedjdflojfhmaaRightE
import Derived.Test.YteedjdflojfhmaaAt
import Derived.Test.YteedjdflojfhmaaChain
import Derived.Deep.RegionWith
import Derived.Deep.DeepCutAuto
namespace Go.Proofs.Yteedjdflojfhmaa
section
set_option linter.unusedVariables false
set_option linter.unusedSimpArgs false
set_option synthInstance.maxSize 20000
set_option maxHeartbeats 1000000
set_option maxRecDepth 20000
open Go.RowKit Go.Maps

theorem count_any (n : Int) (w : World) (hn : I64 n) : Calls Try.prog 100 #[.int .i64 n] w fun e w' => e = .returned (.int .u64 (n.toNat : Int)) ∧ w' = w := by
  obtain ⟨h1, h2⟩ := hn
  obtain ⟨N, hN⟩ : ∃ N : Nat, n.toNat = N := ⟨_, rfl⟩
  rw [hN]
  by_cases h : n < 0
  · have HN : Hid ((N : Int) = 0) := by show _ = _; omega
    clear hN
    go_enter Try.func100, Try.ntmps100
    go_wp2
    go_ret
    exact ⟨by rw [HN.out]; rfl, rfl⟩
  · have HN : Hid ((N : Int) = n) := by show _ = _; omega
    clear hN
    go_enter Try.func100, Try.ntmps100
    go_wp2
    go_ret
    exact ⟨by rw [HN.out]; rfl, rfl⟩

/-- Block b holds a writer of fields that has put l. -/
def Fld (w : World) (b : Nat) (l : List Int) : Prop := ∃ v, Blk w b 126 [v] ∧ Own (b + 1) 5 w v l
theorem Fld.lt {w : World} {b : Nat} {l : List Int} (h : Fld w b l) : b < w.heap.size := h.choose_spec.1.lt
theorem Fld.below {w w' : World} {b : Nat} {l : List Int} (h : Fld w b l) (hb : Below w.heap.size w w') : Fld w' b l := by
  obtain ⟨v, h1, h2⟩ := h
  exact ⟨v, h1.below hb, h2.kept (below_grown hb)⟩
theorem Fld.put {w w2 : World} {b : Nat} {l l' : List Int} {v' : Value} (h : Fld w b l) (hb : Below w.heap.size w w2) (ho : Own w.heap.size 5 w2 v' l') : Fld (w2.setCell ⟨b, 0, none⟩ v') b l' ∧ w.grownBy (w2.setCell ⟨b, 0, none⟩ v') (some b) := by
  obtain ⟨v, h1, h2⟩ := h
  have hlt := h1.lt
  refine ⟨⟨v', (h1.below hb).set 0 v', ?_⟩, grown_none (below_grown hb) (grown_setCell _ _ _ _)⟩
  refine Own.lower (B := w.heap.size) (show Own w.heap.size 5 (w2.setCell ⟨b, 0, none⟩ v') v' l' from ⟨ho.1, ho.2.kept (grown_setCell _ _ _ _) ?_⟩) (by omega)
  cases hk : v'.ownBlock with
  | none => exact .inl rfl
  | some k =>
    refine .inr fun e => ?_
    have := (ho.2.lt k hk).1
    have := Option.some.inj e
    omega
theorem fld_new (w : World) : Fld (w.alloc (.cells #[.slice none 0 0] 126)) w.heap.size [] := ⟨.slice none 0 0, blk_new w [.slice none 0 0] 126, own_nil _ _ _⟩
theorem Fld.rd {w : World} {b : Nat} {l : List Int} (h : Fld w b l) : ∃ v, Blk w b 126 [v] ∧ Own (b + 1) 5 w v l ∧ ∃ a cap, v = .slice a l.length cap := by
  obtain ⟨v, h1, h2⟩ := h
  obtain ⟨a, cap, e⟩ := h2.rd.len
  exact ⟨v, h1, h2, a, cap, e⟩
/-- Bytes that are read lie in no such block. -/
theorem Rd.pastF {w w' : World} {v : Value} {l m : List Int} {b : Nat} (h : Rd w v l) (hf : Fld w b m) (hg : w.grownBy w' (some b)) : Rd w' v l := by
  obtain ⟨u, h1, h2, a0, c0, rfl⟩ := hf.rd
  obtain ⟨ho, a, cap, rfl, g1, g2, g3, g4⟩ := h
  refine ⟨ho, a, cap, rfl, g1, g2, g3, fun hp => ?_⟩
  obtain ⟨d, off, rfl, hc⟩ := g4 hp
  refine ⟨d, off, rfl, fun j hj => hg.cell (hc j hj) fun e => ?_⟩
  obtain rfl : d = b := by simpa using e
  have hcj := hc j hj
  unfold Blk at h1
  rcases Nat.eq_zero_or_pos (off + j) with h0 | h0
  · rw [h0] at hcj
    simp [World.cell?, h1] at hcj
  · have hn : w.cell? ⟨d, off + j, none⟩ = none := by
      simp [World.cell?, h1]
      omega
    rw [hn] at hcj
    cases hcj

/-- The forms of numbers, one behind the other. -/
def formsL (ns : List Int) : List Int := ns.flatMap fun x => form x.toNat
theorem formsL_len {ns : List Int} (h : ∀ x ∈ ns, U64 x) : (formsL ns).length ≤ 10 * ns.length := by
  unfold formsL
  induction ns with
  | nil => simp
  | cons x l ih =>
    rw [List.flatMap_cons, List.length_append, List.length_cons]
    have h1 := ih (fun y hy => h y (List.mem_cons_of_mem _ hy))
    have h2 := h x List.mem_cons_self
    unfold U64 at h2
    have h3 := form_le10 (n := x.toNat) (by omega)
    omega

theorem nums_any (w : World) (b : Nat) (l : List Int) (vs : Value) (ns : List Int) (h : Fld w b l) (hv : RdU w vs ns) (hl : l.length ≤ 100000) (hn : ns.length ≤ 100) (hout : Out [b] vs) :
    Calls Try.prog 99 #[ptr b, vs] w fun e w' => e = .returned (.tuple #[]) ∧ Fld w' b (l ++ formsL ns) ∧ w.grownBy w' (some b) := by
  have HV : Hid (RdU w vs ns) := hv
  have HO : Hid (Out [b] vs) := hout
  have HF : Hid (Fld w b l) := h
  have HU : Hid (∀ x ∈ ns, U64 x) := hv.1
  obtain ⟨hu, va, vc, rfl, hc1, hc2, hc3, hc4⟩ := hv
  unfold maxLen at hc2
  clear h hout hu hc3 hc4
  go_enter Try.func99, Try.ntmps99
  go_wp2
  go_loopw [8] (fun i wr => ∃ j : Nat, i = .int .i64 j ∧ j ≤ ns.length ∧ Hid (Fld wr b (l ++ formsL (ns.take j))) ∧ Hid (w.grownBy wr (some b))) (fun i _ => ns.length - (intOf i).toNat)
  case atStart => exact ⟨0, rfl, Nat.zero_le _, (by show Fld _ _ _; simpa [formsL] using HF.out), grown_refl _ _⟩
  case round =>
    obtain ⟨j, rfl, hj, HFr, HGr⟩ := hrel
    by_cases hlt : j < ns.length
    · obtain ⟨hu, va', vc', e, _, _, _, hc4⟩ := HV.out.turn (Turn.of_grown (ft := [b]) HGr.out (by simp)) HO.out
      obtain ⟨rfl, rfl⟩ : va = va' ∧ vc = vc' := by simpa using e
      obtain ⟨d, off, rfl, hc⟩ := hc4 (by omega)
      have cj := hc j hlt
      have hx : U64 (ns.getD j 0) := hu _ (by rw [List.getD_eq_getElem?_getD, List.getElem?_eq_getElem hlt]; exact List.getElem_mem hlt)
      have ht : formsL (ns.take (j + 1)) = formsL (ns.take j) ++ form (ns.getD j 0).toNat := by
        rw [List.take_succ_eq_append_getElem hlt]
        unfold formsL
        rw [List.flatMap_append, List.getD_eq_getElem?_getD, List.getElem?_eq_getElem hlt]
        simp
      obtain ⟨N, hN⟩ : ∃ N : Nat, ns.getD j 0 = (N : Int) := ⟨(ns.getD j 0).toNat, by unfold U64 at hx; omega⟩
      rw [hN] at cj hx ht
      have HN : Hid (N < 18446744073709551616) := by show _ < _; unfold U64 at hx; omega
      have HT : Hid (formsL (ns.take (j + 1)) = formsL (ns.take j) ++ form N) := by show _ = _; rw [ht, Int.toNat_natCast]
      have HLen : Hid ((l ++ formsL (ns.take j)).length ≤ 110000) := by
        show _ ≤ _
        have := formsL_len (ns := ns.take j) (fun x hx => HU.out x (List.mem_of_mem_take hx))
        rw [List.length_append]
        rw [List.length_take] at this
        omega
      obtain ⟨v, X, own, a, cap, rfl⟩ := HFr.out.rd
      have x0 := X.cell 0 _ rfl
      have HOwn : Hid (Own (b + 1) 5 wr (.slice a (l ++ formsL (ns.take j)).length cap) (l ++ formsL (ns.take j))) := own
      have HX : Hid (Blk wr b 126 [.slice a (l ++ formsL (ns.take j)).length cap]) := X
      generalize hL : l ++ formsL (ns.take j) = L at *
      have HL : Hid (l ++ formsL (ns.take j) = L) := hL
      clear hL hN hx ht hc hc4 hu own X e
      go_wp2_with (go_at_call 108; go_must (refine (num_any _ L N wr HOwn.out.rd (by have := HLen.out; omega) HN.out).mono ?_; rintro e w2 ⟨v2, rfl, hown2, hb2⟩; obtain ⟨a2, c2, rfl⟩ := hown2.rd.len; rw [List.length_append] at hown2; have X2 := HX.out.below hb2; have y0 := X2.cell 0 _ rfl; have f0 := X2.frozen 0))
      go_roundw
      case rel =>
        have hp := HFr.out.put hb2 hown2
        exact ⟨j + 1, by go_num, by omega, (by show Fld _ _ _; rw [HT.out, ← List.append_assoc, HL.out]; exact hp.1), grown_trans HGr.out hp.2 (fun k hk => .inl hk)⟩
      case measure => simp [intOf]; omega
    · have HE : Hid (ns.take j = ns) := List.take_of_length_le (by omega)
      go_wp2
      go_end0
      exact ⟨rfl, by have := HFr.out; rwa [HE.out] at this, HGr.out⟩

theorem epoch_any (w : World) (b : Nat) (l : List Int) (n : Int) (h : Fld w b l) (hl : l.length ≤ 1000000) (hn : I64 n) :
    Calls Try.prog 102 #[ptr b, .int .i64 n] w fun e w' => e = .returned (.tuple #[]) ∧ Fld w' b (l ++ form (zig n)) ∧ w.grownBy w' (some b) := by
  have HF : Hid (Fld w b l) := h
  have HN : Hid (I64 n) := hn
  obtain ⟨v, X, own, a, cap, rfl⟩ := h.rd
  have x0 := X.cell 0 _ rfl
  have HOwn : Hid (Own (b + 1) 5 w (.slice a l.length cap) l) := own
  have HX : Hid (Blk w b 126 [.slice a l.length cap]) := X
  clear h X own hn
  go_enter Try.func102, Try.ntmps102
  go_wp2_with (go_at_call 109; go_must (refine (int_any _ l n w HOwn.out.rd (by omega) HN.out).mono ?_; rintro e w2 ⟨v2, rfl, hown2, hb2⟩; obtain ⟨a2, c2, rfl⟩ := hown2.rd.len; rw [List.length_append] at hown2; have X2 := HX.out.below hb2; have y0 := X2.cell 0 _ rfl; have f0 := X2.frozen 0))
  go_end0
  exact ⟨rfl, HF.out.put hb2 hown2⟩
end

section
set_option linter.unusedVariables false
set_option linter.unusedSimpArgs false
set_option synthInstance.maxSize 20000
set_option maxHeartbeats 1000000
set_option maxRecDepth 20000
open Go.RowKit Go.Maps

theorem u64_nat (N : Nat) (h : N < 18446744073709551616) : U64 (N : Int) := by unfold U64; omega
theorem out_new {w : World} {b n c : Nat} {o : Nat} (h : b < w.heap.size) : Out [b] (.slice (some ⟨w.heap.size, o, none⟩) n c) := fun k hk e => by
  simp [Value.ownBlock] at hk
  simp at e
  omega
end

section
set_option linter.unusedVariables false
set_option linter.unusedSimpArgs false
set_option synthInstance.maxSize 20000
set_option maxHeartbeats 2000000
set_option maxRecDepth 20000
open Go.RowKit Go.Maps

theorem Fld.drew {w : World} {b : Nat} {l : List Int} (h : Fld w b l) : Fld w.drew b l := h
theorem grown_undrew {w w' : World} {r : Option Nat} (h : w.drew.grownBy w' r) : w.grownBy w' r := ⟨h.os, h.tape, h.output, h.size, h.block⟩

theorem textE_any (w : World) (b : Nat) (l : List Int) (e : Ent) (v : Value) (h : Fld w b l) (hl : l.length ≤ 10000) (he : EOk e) (hv : Rd w v e.b) (hb : e.b.length ≤ 1000000) :
    Calls Try.prog 83 #[ptr b, ev e v] w fun r w' => r = .returned (.tuple #[]) ∧ Fld w' b (l ++ textL e) ∧ w.grownBy w' (some b) := by
  have HV : Hid (Rd w v e.b) := hv
  have hlt := h.lt
  obtain ⟨a, cap, rfl⟩ := hv.len
  obtain ⟨ew, ei, ep, et, eu, en, eb, eg⟩ := e
  obtain ⟨h1, h2, h3, h4, h5, h6, h7, h8⟩ := he
  dsimp only at *
  have HS : Hid (SOk (et, eu)) := ⟨h4, h5⟩
  have HE : Hid (I64 en) := h6
  have C1 := fun w => count_any ew w h1
  have C2 := fun w => count_any ei w h2
  have hNX : ew.toNat < 18446744073709551616 := by have := h1.2; omega
  have hNY : ei.toNat < 18446744073709551616 := by have := h2.2; omega
  have hNZ : ep.toNat < 18446744073709551616 := by have := h3.2; omega
  have hZ : ((ep.toNat : Nat) : Int) = ep := by have := h3.1; omega
  have HL : Hid (textL ⟨ew, ei, ep, et, eu, en, eb, eg⟩ = form ew.toNat ++ form ei.toNat ++ form ep.toNat ++ putS (et, eu) ++ form (zig en) ++ form eb.length ++ eb) := rfl
  obtain ⟨NX, eX⟩ : ∃ NX : Nat, ew.toNat = NX := ⟨_, rfl⟩
  obtain ⟨NY, eY⟩ : ∃ NY : Nat, ei.toNat = NY := ⟨_, rfl⟩
  obtain ⟨NZ, eZ⟩ : ∃ NZ : Nat, ep.toNat = NZ := ⟨_, rfl⟩
  rw [eX] at C1 hNX HL
  rw [eY] at C2 hNY HL
  rw [eZ] at hNZ HL hZ
  subst hZ
  have HC1 : Hid (∀ w, Calls Try.prog 100 #[.int .i64 ew] w fun e w' => e = .returned (.int .u64 (NX : Int)) ∧ w' = w) := C1
  have HC2 : Hid (∀ w, Calls Try.prog 100 #[.int .i64 ei] w fun e w' => e = .returned (.int .u64 (NY : Int)) ∧ w' = w) := C2
  have HU : Hid (∀ z ∈ [(NX : Int), (NY : Int), (NZ : Int)], U64 z) := fun z hz => by
    simp at hz
    rcases hz with rfl | rfl | rfl <;> exact u64_nat _ (by assumption)
  have HFL : Hid (formsL [(NX : Int), (NY : Int), (NZ : Int)] = form NX ++ form NY ++ form NZ) := by show _ = _; unfold formsL; simp
  have HLen : Hid ((form NX ++ form NY ++ form NZ).length ≤ 30) := by
    show _ ≤ _
    have h1 := form_le10 hNX
    have h2 := form_le10 hNY
    have h3 := form_le10 hNZ
    simp only [List.length_append]; omega
  have HPL : Hid ((putS (et, eu)).length ≤ 20) := putS_len (et, eu) ⟨h4, h5⟩
  have HZL : Hid ((form (zig en)).length ≤ 10) := form_le10 (zig_lt en h6)
  have hmf : ∀ (fn : Fn) (first cap : Array Value) (w : World), (Instr.makeFunc fn first cap).run Try.prog w = .ok (.func fn first cap) w := fun _ _ _ _ => rfl
  obtain ⟨w1, hw1⟩ : ∃ w1, w1 = w.alloc (.cells #[.int .i64 ew, .int .i64 ei, .int .u64 (NZ : Int), .int .i64 et, .int .i64 eu, .int .i64 en, .slice a eb.length cap, .int .u64 eg] 47) := ⟨_, rfl⟩
  have X1 : Blk w1 w.heap.size 47 [.int .i64 ew, .int .i64 ei, .int .u64 (NZ : Int), .int .i64 et, .int .i64 eu, .int .i64 en, .slice a eb.length cap, .int .u64 eg] := by rw [hw1]; exact blk_new w [.int .i64 ew, .int .i64 ei, .int .u64 (NZ : Int), .int .i64 et, .int .i64 eu, .int .i64 en, .slice a eb.length cap, .int .u64 eg] 47
  have HB1 : Hid (Below w.heap.size w w1) := by show Below _ _ _; rw [hw1]; exact balloc (Below.refl _ _) _
  have HF1 : Hid (Fld w1 b l) := h.below HB1.out
  clear C1 C2 eX eY eZ h h1 h2 h3 h4 h5 h6 h7 h8 hv hNX hNY hNZ
  unfold ev
  dsimp only
  go_enter Try.func83, Try.ntmps83
  go_upto_region 2 with fail
  rw [← hw1]
  obtain ⟨nb, hnb⟩ : ∃ nb, nb = w.heap.size := ⟨_, rfl⟩
  rw [← hnb] at X1 hlt ⊢
  have HNB : Hid (nb = w.heap.size) := hnb
  clear hw1 hnb
  go_cut [18] (fun p wx => Hid (Fld wx b (l ++ (form NX ++ form NY ++ form NZ))) ∧ Hid (w1.grownBy wx (some b)))
  case first =>
   have HX1 : Hid (Blk w1 nb 47 [.int .i64 ew, .int .i64 ei, .int .u64 (NZ : Int), .int .i64 et, .int .i64 eu, .int .i64 en, .slice a eb.length cap, .int .u64 eg]) := X1
   have q0 := fun z : WIn (fun w' => w1.grownBy w' (some b)) => (X1.block (z.ok.block nb X1.lt (fun e => by have := Option.some.inj e; omega))).cell 0 _ rfl
   have q1 := fun z : WIn (fun w' => w1.grownBy w' (some b)) => (X1.block (z.ok.block nb X1.lt (fun e => by have := Option.some.inj e; omega))).cell 1 _ rfl
   have q2 := fun z : WIn (fun w' => w1.grownBy w' (some b)) => (X1.block (z.ok.block nb X1.lt (fun e => by have := Option.some.inj e; omega))).cell 2 _ rfl
   have ne : Nonempty (WIn (fun w' => w1.grownBy w' (some b))) := ⟨⟨w1, grown_refl _ _⟩⟩
   refine wp_region_tree (C := fun w' => ∃ z : WIn (fun w' => w1.grownBy w' (some b)), w' = z.w)
     (.still 0 (.still 1 (.still 2 (.still 4 (.still 5 (.still 7 (.still 8 (.two 3 (.one 6 (.one 9 (.one 10 .done))) 6 (.one 3 (.one 9 (.one 10 .done)))))))))))
     (by kernel_rfl) (by kernel_rfl) ⟨⟨w1.drew, grown_drew (grown_refl _ _)⟩, rfl⟩ ?_
   iterate 7 (refine tree_still rfl rfl ?_; go_big_quiet_step (fail); refine wpQuiet_nil ?_)
   clear q0 q1 q2 ne X1
   have HRU : Hid (RdU (w1.drew.alloc (.cells #[.int .u64 (NX : Int), .int .u64 (NY : Int), .int .u64 (NZ : Int)] 32)) (.slice (some ⟨w1.heap.size, 0, none⟩) 3 3) [(NX : Int), (NY : Int), (NZ : Int)]) := rdU_row w1.drew [(NX : Int), (NY : Int), (NZ : Int)] 32 (0, 0) HU.out (by unfold maxLen; simp)
   have HG9 : Hid (w1.grownBy (w1.drew.alloc (.cells #[.int .u64 (NX : Int), .int .u64 (NY : Int), .int .u64 (NZ : Int)] 32)) (some b)) := (show w1.grownBy _ (some b) from grown_undrew (World.grownBy_alloc w1.drew _ (some b)))
   have HN : Hid (∀ w', w' = w1.drew.alloc (.cells #[.int .u64 (NX : Int), .int .u64 (NY : Int), .int .u64 (NZ : Int)] 32) → Calls Try.prog 99 #[ptr b, .slice (some ⟨w1.heap.size, 0, none⟩) 3 3] w' fun e w'' => e = .returned (.tuple #[]) ∧ Fld w'' b (l ++ (form NX ++ form NY ++ form NZ)) ∧ w1.grownBy w'' (some b)) := fun w' hw' => by
     subst hw'
     refine (nums_any _ b l _ [(NX : Int), (NY : Int), (NZ : Int)] (HF1.out.drew.below (balloc (Below.refl _ _) _)) HRU.out (by omega) (by simp) (out_new (w := w1) (by have := HF1.out.lt; omega))).mono ?_
     rw [HFL.out]
     rintro e w2 ⟨rfl, hf2, hg2⟩
     exact ⟨rfl, hf2, grown_none (grown_undrew (World.grownBy_alloc w1.drew _ none)) hg2⟩
   have G0 : Hid (w1.grownBy w1.drew (some b)) := grown_drew (grown_refl _ _)
   refine tree_two rfl rfl rfl rfl ?_ ?_
   all_goals
     go_simp
     first
       | (refine (HC1.out _).mono ?_; rintro e wx ⟨rfl, hx⟩; replace hx := hx.symm; subst hx; refine ⟨⟨⟨_, G0.out⟩, rfl⟩, ?_⟩; refine tree_one rfl rfl ?_; go_simp; refine (HC2.out _).mono ?_; rintro e wx ⟨rfl, hx⟩; replace hx := hx.symm; subst hx; refine ⟨⟨⟨_, G0.out⟩, rfl⟩, ?_⟩)
       | (refine (HC2.out _).mono ?_; rintro e wx ⟨rfl, hx⟩; replace hx := hx.symm; subst hx; refine ⟨⟨⟨_, G0.out⟩, rfl⟩, ?_⟩; refine tree_one rfl rfl ?_; go_simp; refine (HC1.out _).mono ?_; rintro e wx ⟨rfl, hx⟩; replace hx := hx.symm; subst hx; refine ⟨⟨⟨_, G0.out⟩, rfl⟩, ?_⟩)
     refine tree_one rfl rfl ?_
     go_simp
     refine ⟨⟨⟨_, HG9.out⟩, rfl⟩, ?_⟩
     refine tree_one rfl rfl ?_
     go_simp
     refine (HN.out _ rfl).mono ?_
     rintro e w2 ⟨rfl, hf2, hg2⟩
     have HF2 : Hid (Fld w2 b (l ++ (form NX ++ form NY ++ form NZ))) := hf2
     have HG2 : Hid (w1.grownBy w2 (some b)) := hg2
     clear hf2 hg2
     refine ⟨⟨⟨_, HG2.out⟩, rfl⟩, ?_⟩
     refine tree_done ?_
     go_wp2
     go_meet
     exact ⟨HF2, HG2⟩
  case rest =>
   obtain ⟨HF2, HG2⟩ := hcut
   rename World => w2
   have HX2 : Hid (Blk w2 nb 47 [.int .i64 ew, .int .i64 ei, .int .u64 (NZ : Int), .int .i64 et, .int .i64 eu, .int .i64 en, .slice a eb.length cap, .int .u64 eg]) := (show Blk _ _ _ _ from X1.block (HG2.out.block nb X1.lt (fun e => by have := Option.some.inj e; omega)))
   have HV2 : Hid (Rd w2 (.slice a eb.length cap) eb) := (show Rd _ _ _ from (HV.out.below HB1.out).pastF HF1.out HG2.out)
   have HLT : Hid (b < nb) := hlt
   generalize hL2 : l ++ (form NX ++ form NY ++ form NZ) = L2 at HF2
   have HLen2 : Hid (L2.length ≤ 10030) := by show _ ≤ _; have := HLen.out; rw [← hL2, List.length_append]; omega
   have HL2 : Hid (l ++ (form NX ++ form NY ++ form NZ) = L2) := hL2
   clear X1 HC1 HC2 HU HFL hlt hL2 HF1 hmf
   obtain ⟨v2, X3, own2, a2, c2, rfl⟩ := HF2.out.rd
   have x0 := X3.cell 0 _ rfl
   have q3 := HX2.out.cell 3 _ rfl
   have q4 := HX2.out.cell 4 _ rfl
   have HX3 : Hid (Blk w2 b 126 [.slice a2 L2.length c2]) := X3
   have HO2 : Hid (Own (b + 1) 5 w2 (.slice a2 L2.length c2) L2) := own2
   clear X3 own2
   go_upto_region 3 with fail
   go_cut [18] (fun p wx => Hid (Fld wx b (L2 ++ putS (et, eu))) ∧ Hid (w2.grownBy wx (some b)))
   case first =>
    go_region_with (go_at_call 101; go_must (refine (sput_any _ L2 (et, eu) w2.drew HO2.out.rd.drew (by have := HLen2.out; omega) HS.out).mono ?_; rintro e w3 ⟨v3, rfl, hown3, hb3⟩; obtain ⟨a3, c3, rfl⟩ := hown3.rd.len; rw [List.length_append] at hown3; have X4 := HX3.out.below (below_undrew hb3); have y0 := X4.cell 0 _ rfl; have f0 := X4.frozen 0))
    all_goals go_wp2_with fail
    all_goals go_meet
    all_goals
      have hp := HF2.out.put (below_undrew hb3) hown3
      exact ⟨hp.1, hp.2⟩
   case rest =>
    obtain ⟨HF3, HG3⟩ := hcut
    rename World => w3
    have HX4 : Hid (Blk w3 nb 47 [.int .i64 ew, .int .i64 ei, .int .u64 (NZ : Int), .int .i64 et, .int .i64 eu, .int .i64 en, .slice a eb.length cap, .int .u64 eg]) := (show Blk _ _ _ _ from HX2.out.block (HG3.out.block nb HX2.out.lt (fun e => by have := Option.some.inj e; have := HLT.out; omega)))
    have HV3 : Hid (Rd w3 (.slice a eb.length cap) eb) := (show Rd _ _ _ from HV2.out.pastF HF2.out HG3.out)
    have HLen3 : Hid ((L2 ++ putS (et, eu)).length ≤ 10050) := by show _ ≤ _; have := HLen2.out; have := HPL.out; rw [List.length_append]; omega
    have r5 := HX4.out.cell 5 _ rfl
    clear x0 q3 q4 HX2 HX3 HO2
    go_upto_region 5 with (go_at_call 102; go_must (refine (epoch_any w3 b _ en HF3.out (by have := HLen3.out; omega) HE.out).mono ?_; rintro e w4 ⟨rfl, hf4, hg4⟩))
    have HF4 : Hid (Fld w4 b (L2 ++ putS (et, eu) ++ form (zig en))) := hf4
    have HG4 : Hid (w3.grownBy w4 (some b)) := hg4
    have HX5 : Hid (Blk w4 nb 47 [.int .i64 ew, .int .i64 ei, .int .u64 (NZ : Int), .int .i64 et, .int .i64 eu, .int .i64 en, .slice a eb.length cap, .int .u64 eg]) := (show Blk _ _ _ _ from HX4.out.block (hg4.block nb HX4.out.lt (fun e => by have := Option.some.inj e; have := HLT.out; omega)))
    have HV4 : Hid (Rd w4 (.slice a eb.length cap) eb) := (show Rd _ _ _ from HV3.out.pastF HF3.out hg4)
    clear hf4 hg4
    generalize hL4 : L2 ++ putS (et, eu) ++ form (zig en) = L4 at HF4
    have HL4 : Hid (L2 ++ putS (et, eu) ++ form (zig en) = L4) := hL4
    have HLen4 : Hid (L4.length ≤ 10060) := by show _ ≤ _; have := HLen3.out; have := HZL.out; rw [← hL4, List.length_append]; omega
    obtain ⟨v5, X5, own5, a5, c5, rfl⟩ := HF4.out.rd
    have x0 := X5.cell 0 _ rfl
    have q6 := HX5.out.cell 6 _ rfl
    have HX6 : Hid (Blk w4 b 126 [.slice a5 L4.length c5]) := X5
    have HO4 : Hid (Own (b + 1) 5 w4 (.slice a5 L4.length c5) L4) := own5
    clear X5 own5 hL4 r5
    go_region_with (go_at_call 103; go_must (refine (bytes_any _ _ L4 eb w4.drew HO4.out.rd.drew HV4.out.drew (by have := HLen4.out; omega) (by omega)).mono ?_; rintro e w5 ⟨v5, rfl, hown5, hb5⟩; obtain ⟨a6, c6, rfl⟩ := hown5.rd.len; rw [List.length_append, List.length_append, Nat.add_assoc] at hown5; have X7 := HX6.out.below (below_undrew hb5); have y0 := X7.cell 0 _ rfl; have f0 := X7.frozen 0))
    all_goals go_wp2_with fail
    all_goals go_end0
    all_goals
      have hp := HF4.out.put (below_undrew hb5) hown5
      refine ⟨rfl, ?_, grown_trans (grown_trans (grown_trans (grown_none (below_grown HB1.out) HG2.out) HG3.out (fun k hk => .inl hk)) HG4.out (fun k hk => .inl hk)) hp.2 (fun k hk => .inl hk)⟩
      rw [HL.out]
      have e : l ++ (form NX ++ form NY ++ form NZ ++ putS (et, eu) ++ form (zig en) ++ form eb.length ++ eb) = L4 ++ form eb.length ++ eb := by
        rw [← HL4.out, ← HL2.out]
        simp only [List.append_assoc]
      rw [e]
      exact hp.1
end
end Go.Proofs.Yteedjdflojfhmaa
