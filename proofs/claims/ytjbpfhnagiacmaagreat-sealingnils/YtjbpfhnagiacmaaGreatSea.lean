/-
  Where a body stands: the document's bytes of a place, the program's place.
-/
import Derived.Test.YtjbpfhnagiacmaaGreatEntS
import Derived.Test.YtjbpfhnagiacmaaGreatOrcs
import Derived.Test.YtjbpfhnagiacmaaGreatRng
import Derived.Test.YtjbpfhnagiacmaaGreatRgt
namespace Go.Proofs.YtjbpfhnagiacmaaGreat
set_option linter.unusedVariables false
set_option linter.unusedSimpArgs false
set_option synthInstance.maxSize 20000
set_option maxHeartbeats 2000000
set_option maxRecDepth 20000
open Go.RowKit Go.Maps
theorem refbound38 (w : World) (x y n : Int) (hx : I64 x) (hy : I64 y) (hn : I64 n) :
    Calls Tryz.prog 38 #[.int .i64 x, .int .i64 y, .int .i64 n] w fun e w' => ∃ v, e = .returned v ∧ Own w.heap.size 5 w' v (boundL x y n) ∧ Below w.heap.size w w' := by
  have HN : Hid (I64 n) := hn
  obtain ⟨NX, eX⟩ : ∃ NX : Nat, x.toNat = NX := ⟨_, rfl⟩
  obtain ⟨NY, eY⟩ : ∃ NY : Nat, y.toNat = NY := ⟨_, rfl⟩
  have hNX : NX < 18446744073709551616 := by have := hx.2; omega
  have hNY : NY < 18446744073709551616 := by have := hy.2; omega
  have hX9 : (NX : Int) ≤ 9223372036854775807 := by have := hx.2; omega
  have hY9 : (NY : Int) ≤ 9223372036854775807 := by have := hy.2; omega
  obtain ⟨M, m⟩ : ∃ M : Int, (if x < 0 then 0 else x) = M := ⟨_, rfl⟩
  obtain ⟨M2, m2⟩ : ∃ M2 : Int, (if y < 0 then 0 else y) = M2 := ⟨_, rfl⟩
  have eM : M = (NX : Int) := by rw [← m]; split <;> omega
  have eM2 : M2 = (NY : Int) := by rw [← m2]; split <;> omega
  subst eM eM2
  have HR1 : Hid (∀ w, Calls Tryz.prog 60 #[.int .u64 (NX : Int)] w fun e w' => ∃ v', e = .returned v' ∧ Own w.heap.size 5 w' v' (form NX) ∧ Below w.heap.size w w') := fun w => refnum NX w hNX
  have HR2 : Hid (∀ w, Calls Tryz.prog 60 #[.int .u64 (NY : Int)] w fun e w' => ∃ v', e = .returned v' ∧ Own w.heap.size 5 w' v' (form NY) ∧ Below w.heap.size w w') := fun w => refnum NY w hNY
  have HE : Hid (boundL x y n = form NX ++ form NY ++ form (zig n)) := by show _ = _; unfold boundL; rw [eX, eY]
  have HL1 : Hid ((form NX).length ≤ 10) := form_le10 hNX
  have HL2 : Hid ((form NY).length ≤ 10) := form_le10 hNY
  have HL3 : Hid ((form (zig n)).length ≤ 10) := form_le10 (zig_lt n hn)
  clear hx hy hn eX eY hNX hNY
  have tk : Hid True := trivial
  go_enter Tryz.func38, Tryz.ntmps38
  go_upto_region 2 with (first
    | (go_at_call 60; go_must (first
        | (refine (HR1.out _).mono ?_; rintro e w1 ⟨v1, rfl, ho1, hb1⟩; clear HR1)
        | (refine (HR2.out _).mono ?_; rintro e w2 ⟨v2, rfl, ho2, hb2⟩; clear HR2)))
    | (at_builtin; go_must (refine wpList_append_cells 25 5 byteTy rfl (.tmp 11) (.tmp 15) rfl w.heap.size _ (form NX) rfl (ho1.kept (below_grown hb2)) _ (form NY) rfl ho2.rd (by have := HL1.out; have := HL2.out; omega) (Nat.le_trans hb1.size hb2.size) ?_; intro v3 w3 hown3 hg3)))
  have HO3 : Hid (Own w.heap.size 5 w3 v3 (form NX ++ form NY)) := hown3
  have HB3 : Hid (Below w.heap.size w w3) := (show Below _ _ _ from (bnext hb1 hb2).grown hg3 (bnext hb1 hb2).size (fun k hk => (ho1.2.lt k hk).1))
  clear hb2 ho2 hown3 hg3 hb1 ho1
  go_wp2_with (first
    | (go_at_call 80; go_must (refine (refint_any n w3 HN.out).mono ?_; rintro r w10 ⟨v10, rfl, ho10, hb10⟩))
    | (at_builtin; go_must (refine wpList_append_cells 25 5 byteTy rfl (.tmp 17) (.tmp 19) rfl w.heap.size _ (form NX ++ form NY) rfl (HO3.out.kept (below_grown hb10)) _ (form (zig n)) rfl ho10.rd (by have := HL1.out; have := HL2.out; have := HL3.out; simp only [List.length_append]; omega) (Nat.le_trans HB3.out.size hb10.size) ?_; intro v11 w11 hown11 hg11)))
  go_ret
  refine ⟨_, rfl, ?_, (bnext HB3.out hb10).grown hg11 (bnext HB3.out hb10).size (fun k hk => (HO3.out.2.lt k hk).1)⟩
  rw [HE.out]
  exact hown11
def sampE (x y n : Int) : Ent := ⟨x, y, if y = 0 then 0 else 1, 1, x, n, [], 0⟩
theorem sample74 (w : World) (x y n : Int) : Calls Tryz.prog 74 #[.agg #[.int .i64 x, .int .i64 y, .int .i64 n]] w fun e w' => e = .returned (ev (sampE x y n) (.slice none 0 0)) ∧ Below w.heap.size w w' := by
  unfold sampE ev
  dsimp only
  by_cases hy : y = 0
  · subst hy
    go_enter Tryz.func74, Tryz.ntmps74
    go_wp2
    refine bodyPost_ret (v := .agg #[.int .i64 x, .int .i64 0, .int .u64 0, .int .i64 1, .int .i64 x, .int .i64 n, .slice none 0 0, .int .u64 0]) ?_ rfl ⟨rfl, ?_⟩
    · rw [results_cell1 rfl]
      go_simp
    · exact balloc (balloc (balloc (Below.refl _ _) _) _) _
  · rw [if_neg hy]
    go_enter Tryz.func74, Tryz.ntmps74
    go_wp2
    refine bodyPost_ret (v := .agg #[.int .i64 x, .int .i64 y, .int .u64 1, .int .i64 1, .int .i64 x, .int .i64 n, .slice none 0 0, .int .u64 0]) ?_ rfl ⟨rfl, ?_⟩
    · rw [results_cell1 rfl]
      go_simp
    · exact balloc (balloc (balloc (Below.refl _ _) _) _) _
def placeB (x y n : Int) : Bool := decide ((0 ≤ x ∧ x ≤ 7) ∧ (0 ≤ y ∧ y ≤ 199) ∧ (0 ≤ n ∧ n ≤ 19))
theorem samp_right (x y n : Int) : (n ≠ -1 ∧ eRight (sampE x y n) = true) ↔ placeB x y n = true := by
  rw [eRight_iff]
  unfold placeB sampE rightE rightP
  rw [decide_eq_true_iff]
  dsimp only
  simp only [List.length_nil]
  constructor
  · rintro ⟨h1, h2, h3, h4, h5, h6, h7, h8⟩
    exact ⟨h2, h3, by omega, h7.2⟩
  · rintro ⟨h1, h2, h3⟩
    refine ⟨by omega, h1, h2, ?_, ?_, trivial, by omega, by omega⟩
    · split <;> simp_all
    · omega
theorem sealable32 (w : World) (x y n : Int) : Calls Tryz.prog 32 #[.agg #[.int .i64 x, .int .i64 y, .int .i64 n]] w fun e w' => e = .returned (.bool (placeB x y n)) ∧ Below w.heap.size w w' := by
  have hs := samp_right x y n
  have HS : Hid (∀ w', Calls Tryz.prog 74 #[.agg #[.int .i64 x, .int .i64 y, .int .i64 n]] w' fun e w'' => e = .returned (ev (sampE x y n) (.slice none 0 0)) ∧ Below w'.heap.size w' w'') := fun w' => sample74 w' x y n
  have HR : Hid (∀ w', Calls Tryz.prog 39 #[ev (sampE x y n) (.slice none 0 0)] w' fun r w'' => r = .returned (.bool (eRight (sampE x y n))) ∧ Below w'.heap.size w' w'') := fun w' => rightE_any (sampE x y n) (.slice none 0 0) w' (rd_nil w')
  generalize eRight (sampE x y n) = q at *
  unfold ev at HS HR
  generalize (sampE x y n).w = a0 at *
  generalize (sampE x y n).i = a1 at *
  generalize (sampE x y n).p = a2 at *
  generalize (sampE x y n).t = a3 at *
  generalize (sampE x y n).u = a4 at *
  generalize (sampE x y n).n = a5 at *
  generalize (sampE x y n).g = a7 at *
  by_cases hn : n = -1
  · have e : placeB x y n = false := by
      cases h : placeB x y n
      · rfl
      · exact absurd hn (hs.2 h).1
    rw [e]
    subst hn
    clear HS HR hs e
    go_enter Tryz.func32, Tryz.ntmps32
    go_wp2
    go_ret
    exact ⟨rfl, balloc (Below.refl _ _) _⟩
  · have e : placeB x y n = q := by
      cases h : placeB x y n <;> cases q
      · rfl
      · exact absurd (hs.1 ⟨hn, rfl⟩) (by rw [h]; simp)
      · exact absurd (hs.2 h).2 (by simp)
      · rfl
    rw [e]
    clear hs e
    have hn' : (n != -1) = true := by simp [hn]
    go_enter Tryz.func32, Tryz.ntmps32
    go_wp2_with (first
      | (go_at_call 74; go_must (refine (HS.out _).mono ?_; rintro r w2 ⟨rfl, hb2⟩))
      | (go_at_call 39; go_must (refine (HR.out _).mono ?_; rintro r w3 ⟨rfl, hb3⟩)))
    go_ret
    exact ⟨rfl, bnext (bnext (balloc (Below.refl _ _) _) hb2) hb3⟩
end Go.Proofs.YtjbpfhnagiacmaaGreat
