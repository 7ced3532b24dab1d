/-
  What is there; what takes others; a copy of an item; New, Len, Get.
-/
import Derived.Test.YtjlpdoomchkfgaaTrT
import Derived.Test.YtjlpdoomchkfgaaRow
import Derived.Test.YtjlpdoomchkfgaaMvs
namespace Go.Proofs.Ytjlpdoomchkfgaa
set_option linter.unusedVariables false
set_option linter.unusedSimpArgs false
set_option synthInstance.maxSize 20000
set_option maxHeartbeats 2000000
set_option maxRecDepth 20000
open Go.RowKit Go.Maps

section
variable {w : World} {tb : Nat} {mo : Option Nat} {L : List IT} {n : S}
theorem box_new {w w1 : World} {B0 : Nat} {n : S} (hw1 : w1 = w.alloc (.cells (sc n).toArray 24)) (h0 : B0 = w.heap.size) : Below w.heap.size w w1 ∧ Blk w1 B0 24 (sc n) := by
  subst hw1 h0
  exact ⟨balloc (Below.refl _ _) _, blk_new w (sc n) 24⟩
theorem has46 (h : PTr w tb mo L) (hn : SOk n) : Calls Try.prog 46 #[ptr tb, sv n] w fun e w' => e = .returned (.bool (hasM (L.map IT.m) n)) ∧ Below w.heap.size w w' := by
  have HF : Hid (∀ w', Below w.heap.size w w' → Calls Try.prog 42 #[ptr tb, sv n] w' (GetAns w' L n)) := fun w' hb => look42 (h.below hb) hn
  clear h
  obtain ⟨w1, hw1⟩ : ∃ w1, w1 = w.alloc (.cells (sc n).toArray 24) := ⟨_, rfl⟩
  obtain ⟨B0, hB0⟩ : ∃ B0, B0 = w.heap.size := ⟨_, rfl⟩
  obtain ⟨i1, i2⟩ := box_new hw1 hB0
  have HB1 : Hid (Below w.heap.size w w1) := i1
  have HX : Hid (w1.rangeAt B0 0 (sc n)) := i2.range0
  clear i1 i2
  go_enter Try.func46, Try.ntmps46
  go_upto_region 1 with (refine wpList_okw rfl (exec_box24 (n := n) (.tmp 1) rfl rfl) ?_)
  rw [← hw1, ← hB0]
  clear hw1 hB0
  go_upto_region 2 with (first
    | (refine wpList_okw rfl (exec_load24n (n := n) (.tmp 3) rfl rfl HX.out) ?_)
    | (go_at_call 42; go_must (refine (HF.out _ HB1.out).mono ?_; rintro r w2 ⟨x, b, rfl, hgt, hb2⟩; have HG : Hid (GotT w2 L n x b) := hgt; have HB12 : Hid (Below w1.heap.size w1 w2) := hb2; have HBz : Hid (Below w.heap.size w w2) := bnext HB1.out hb2; clear hb2 hgt; obtain ⟨w3, hw3⟩ : ∃ w3, w3 = w2.alloc (.cells (ic zT).toArray 35) := ⟨_, rfl⟩; obtain ⟨g, hg⟩ : ∃ g, g = w2.heap.size := ⟨_, rfl⟩; have HT3 : Hid (w3.there g 0 10) := (show _ from by rw [hw3, hg]; exact (itp_new w2 zT).there); have HW3 : Hid (w3 = w2.alloc (.cells (ic zT).toArray 35)) := hw3; have HGG : Hid (g = w2.heap.size) := hg; clear hw3 hg; have tk1 : Hid True := trivial; have tk2 : Hid True := trivial))
    | (clear tk1; refine wpList_okw rfl (exec_alloc35 rfl) ?_; rw [← HW3.out, ← HGG.out])
    | (clear tk2; refine wpList_skipw rfl (exec_store35 (q := x) (.tmp 5) (.tmp 11) rfl rfl rfl HT3.out) ?_; obtain ⟨w4, hw4⟩ : ∃ w4, w4 = w3.setCells g 0 (ic x) := ⟨_, rfl⟩; rw [← hw4]; obtain ⟨i1, i2, i3, i4⟩ := item_putp HBz.out HW3.out HGG.out hw4; have HI4 : Hid (Itp w4 g x) := i1; have HB4 : Hid (Below w.heap.size w w4) := i2; have HB24 : Hid (Below w2.heap.size w2 w4) := i3; have HGL : Hid (w.heap.size ≤ g) := i4; clear hw4 i1 i2 i3 i4 HT3 HW3 HGG))
  go_wp2
  go_ret
  exact ⟨by rw [HG.out.is]; rfl, HB4.out⟩
theorem len18 (h : PTr w tb mo L) : Calls Try.prog 18 #[ptr tb] w fun e w' => e = .returned (.int .i64 (L.length : Int)) ∧ w' = w := by
  have t0 := h.blk.cell 0 _ rfl
  rcases h.mp with ⟨rfl, rfl⟩ | ⟨mb, rfl, hm⟩
  · go_enter Try.func18, Try.ntmps18
    go_wp2
    go_ret
    exact ⟨rfl, rfl⟩
  · have hl := hm.len
    go_enter Try.func18, Try.ntmps18
    go_wp2
    go_ret
    exact ⟨rfl, rfl⟩
theorem new10 (w : World) : Calls Try.prog 10 #[] w fun e w' => e = .returned (ptr w.heap.size) ∧ w' = w.alloc (.cells #[.map none] 70) := by
  go_enter Try.func10, Try.ntmps10
  go_wp2
  go_ret
  exact ⟨rfl, rfl⟩
theorem ptr_new (w : World) : PTr (w.alloc (.cells #[.map none] 70)) w.heap.size none [] := ⟨blk_new w [.map none] 70, .inl ⟨rfl, rfl⟩, fun x h => (by cases h), fun x h => (by cases h), List.Pairwise.nil, Nat.zero_le _⟩
/-- A copy of an item: its content lies in new memory. -/
structure CopyT (B : Nat) (w : World) (x y : IT) : Prop where
  m : y.m = x.m
  own : Own B 5 w y.v y.m.b
theorem Itp.ret1 {w : World} {b : Nat} {q : IT} {v : Value} (h : Itp w b q) (h1 : v = ptr b) : (((asAddr v).run Try.prog w).andThen fun a w₁ => (loadVar 35 a).run Try.prog w₁) = .ok (iv q) w := by
  subst h1
  have e1 : (asAddr (ptr b)).run Try.prog w = .ok ⟨b, 0, none⟩ w := rfl
  rw [e1]
  simp only [Result.andThen_ok, h.load]
theorem CopyT.rd {B : Nat} {w : World} {x y : IT} (h : CopyT B w x y) : Rd w y.v y.m.b := h.own.rd
theorem results43 : Try.f43.results = #[.cell 2 35] := rfl
/-- Two new blocks, of two items. -/
theorem two_items {w w1 : World} {B0 B1 : Nat} {x : IT} (hw1 : w1 = (w.alloc (.cells (ic x).toArray 35)).alloc (.cells (ic zT).toArray 35)) (h0 : B0 = w.heap.size) (h1 : B1 = w.heap.size + 1) :
    Below w.heap.size w w1 ∧ Itp w1 B0 x ∧ Itp w1 B1 zT ∧ w.heap.size ≤ B0 ∧ w.heap.size ≤ B1 ∧ B0 ≠ B1 := by
  subst hw1 h0 h1
  refine ⟨balloc (balloc (Below.refl _ _) _) _, Blk.alloc (itp_new w x) _, ?_, by omega, by omega, by omega⟩
  have := itp_new (w.alloc (.cells (ic x).toArray 35)) zT
  simpa using this
theorem copied43 (x : IT) (hx : Rd w x.v x.m.b) (hl : x.m.b.length ≤ 1000) : Calls Try.prog 43 #[iv x] w fun e w' => ∃ y, e = .returned (iv y) ∧ CopyT w.heap.size w' x y ∧ Below w.heap.size w w' := by
  have HC : Hid (∀ w', Below w.heap.size w w' → Calls Try.prog 66 #[x.v] w' fun e w'' => ∃ v', e = .returned v' ∧ Own w'.heap.size 5 w'' v' x.m.b ∧ Below w'.heap.size w' w'') := fun w' hb => bclone_any x.v x.m.b w' (hx.below hb) (by omega)
  clear hx hl
  obtain ⟨w1, hw1⟩ : ∃ w1, w1 = (w.alloc (.cells (ic x).toArray 35)).alloc (.cells (ic zT).toArray 35) := ⟨_, rfl⟩
  obtain ⟨B0, hB0⟩ : ∃ B0, B0 = w.heap.size := ⟨_, rfl⟩
  obtain ⟨B1, hB1⟩ : ∃ B1, B1 = w.heap.size + 1 := ⟨_, rfl⟩
  obtain ⟨i1, i2, i3, i4, i5, i6⟩ := two_items hw1 hB0 hB1
  have HB1 : Hid (Below w.heap.size w w1) := i1
  have HX : Hid (Itp w1 B0 x) := i2
  have HZ : Hid (Itp w1 B1 zT) := i3
  have HBB : Hid (w.heap.size ≤ B0 ∧ w.heap.size ≤ B1 ∧ B0 ≠ B1) := ⟨i4, i5, i6⟩
  clear i1 i2 i3 i4 i5 i6
  have c7 := Blk.cell HX.out 7 _ rfl
  unfold IT.v at HC
  go_enter Try.func43, Try.ntmps43
  go_upto_region 1 with (first | (refine wpList_okw rfl (exec_box35 (q := x) (.tmp 0) rfl rfl) ?_) | (refine wpList_okw rfl (exec_alloc35 rfl) ?_))
  rw [← hw1, show (w.alloc (.cells (ic x).toArray 35)).heap.size = B1 from by rw [hB1]; simp]
  rw [← hB0]
  clear hw1 hB0 hB1
  go_upto_region 2 with (first
    | (go_at_call 66; go_must (refine (HC.out _ HB1.out).mono ?_; rintro r w2 ⟨v', rfl, ho, hb2⟩; have HB12 : Hid (Below w1.heap.size w1 w2) := hb2; have HX2 : Hid (Itp w2 B0 x) := HX.out.below hb2; have HZ2 : Hid (Itp w2 B1 zT) := HZ.out.below hb2; have HO : Hid (Own w1.heap.size 5 w2 v' x.m.b) := ho; obtain ⟨a', c', rfl, _, _⟩ := slice_of_own ho.2; have d7 := Blk.cell HX2.out 7 _ rfl; have f7 := Blk.frozen HX2.out 7; clear ho hb2 c7)))
  obtain ⟨w3, hw3⟩ : ∃ w3, w3 = w2.setCell ⟨B0, 7, none⟩ (.slice a' x.m.b.length c') := ⟨_, rfl⟩
  obtain ⟨y, hy⟩ : ∃ y : IT, y = ⟨x.m, a', x.m.b.length, c'⟩ := ⟨_, rfl⟩
  have HX3 : Hid (Itp w3 B0 y) := by
    show Blk _ _ _ _
    rw [hw3, hy]
    exact Blk.set HX2.out 7 _
  have HBz : Hid (Below w.heap.size w w2) := bnext HB1.out HB12.out
  have HG3 : Hid (w2.grownBy w3 (some B0)) := by show World.grownBy _ _ _; rw [hw3]; exact grown_setCell _ _ _ _
  have HZ3 : Hid (Itp w3 B1 zT) := Blk.past HZ2.out HG3.out (fun e => HBB.out.2.2 e.symm)
  have HB3 : Hid (Below w.heap.size w w3) := bgrown HBz.out HBB.out.1 HG3.out
  have HT3 : Hid (w3.there B1 0 10) := HZ3.out.there
  have HR3 : Hid (w3.rangeAt B0 0 (ic y)) := HX3.out.range
  have HP : Hid (Itp (w3.setCells B1 0 (ic y)) B1 y) := HZ3.out.put y
  have HBp : Hid (Below w.heap.size w (w3.setCells B1 0 (ic y))) := below_put HB3.out HBB.out.2.1
  have HK : Hid (CopyT w.heap.size (w3.setCells B1 0 (ic y)) x y) := by
    have h1 : Own w1.heap.size 5 w2 y.v y.m.b := by rw [hy]; exact HO.out
    have hlt : B0 < w1.heap.size ∧ B1 < w1.heap.size := ⟨Blk.lt HX.out, Blk.lt HZ.out⟩
    have h2 := own_past (own_past h1 hlt.1 HG3.out) hlt.2 (grown_setCells B1 (ic y) 0 w3)
    exact ⟨by rw [hy], h2.lower HB1.out.size⟩
  clear hy
  rw [← hw3]
  clear hw3 d7 f7
  go_wp2_with (first
    | (refine wpList_okw rfl (exec_load35 (q := y) (.tmp 1) rfl rfl HR3.out) ?_)
    | (refine wpList_skipw rfl (exec_store35 (q := y) (.tmp 2) (.tmp 7) rfl rfl rfl HT3.out) ?_))
  refine bodyPost_ret (v := iv y) ?_ rfl ⟨y, rfl, HK.out, HBp.out⟩
  rw [results_cell1 results43]
  exact HP.out.ret1 rfl
end
end Go.Proofs.Ytjlpdoomchkfgaa
