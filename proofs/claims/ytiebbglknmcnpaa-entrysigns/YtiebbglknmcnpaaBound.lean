/-
  What a sealed body is bound to: Bound.
-/
import Derived.Test.YtiebbglknmcnpaaFld
namespace Go.Proofs.Ytiebbglknmcnpaa
set_option linter.unusedVariables false
set_option linter.unusedSimpArgs false
set_option synthInstance.maxSize 20000
set_option maxHeartbeats 1000000
set_option maxRecDepth 20000
open Go.RowKit Go.Maps

theorem u64_nat (N : Nat) (h : N < 18446744073709551616) : U64 (N : Int) := by unfold U64; omega
theorem out_new {w : World} {b n c : Nat} {o : Nat} (h : b < w.heap.size) : Out [b] (.slice (some ⟨w.heap.size, o, none⟩) n c) := fun k hk e => by
  simp [Value.ownBlock] at hk
  simp at e
  omega

theorem bound_any (w : World) (b : Nat) (l : List Int) (x y n : Int) (h : Fld w b l) (hl : l.length ≤ 10000) (hx : I64 x) (hy : I64 y) (hn : I64 n) :
    Calls Try.prog 47 #[ptr b, .int .i64 x, .int .i64 y, .int .i64 n] w fun e w' => e = .returned (.tuple #[]) ∧ Fld w' b (l ++ boundL x y n) ∧ w.grownBy w' (some b) := by
  have HF : Hid (Fld w b l) := h
  have hlt := h.lt
  have HN : Hid (I64 n) := hn
  have C1 := fun w => count_any x w hx
  have C2 := fun w => count_any y w hy
  have hNX : x.toNat < 18446744073709551616 := by have := hx.2; omega
  have hNY : y.toNat < 18446744073709551616 := by have := hy.2; omega
  have HL : Hid (boundL x y n = form x.toNat ++ form y.toNat ++ form (zig n)) := rfl
  obtain ⟨NX, eX⟩ : ∃ NX : Nat, x.toNat = NX := ⟨_, rfl⟩
  obtain ⟨NY, eY⟩ : ∃ NY : Nat, y.toNat = NY := ⟨_, rfl⟩
  rw [eX] at C1 hNX HL
  rw [eY] at C2 hNY HL
  have HC1 : Hid (∀ w, Calls Try.prog 59 #[.int .i64 x] w fun e w' => e = .returned (.int .u64 (NX : Int)) ∧ w' = w) := C1
  have HC2 : Hid (∀ w, Calls Try.prog 59 #[.int .i64 y] w fun e w' => e = .returned (.int .u64 (NY : Int)) ∧ w' = w) := C2
  have HU : Hid (∀ z ∈ [(NX : Int), (NY : Int)], U64 z) := fun z hz => by
    simp at hz
    rcases hz with rfl | rfl <;> exact u64_nat _ (by assumption)
  have HFL : Hid (formsL [(NX : Int), (NY : Int)] = form NX ++ form NY) := by show _ = _; unfold formsL; simp
  have HLen : Hid ((form NX ++ form NY).length ≤ 20) := by
    show _ ≤ _
    have h1 := form_le10 hNX
    have h2 := form_le10 hNY
    rw [List.length_append]; omega
  have hmf : ∀ (fn : Fn) (first cap : Array Value) (w : World), (Instr.makeFunc fn first cap).run Try.prog w = .ok (.func fn first cap) w := fun _ _ _ _ => rfl
  have HRU : Hid (RdU (w.alloc (.cells #[.int .u64 (NX : Int), .int .u64 (NY : Int)] 23)) (.slice (some ⟨w.heap.size, 0, none⟩) 2 2) [(NX : Int), (NY : Int)]) := rdU_row w [(NX : Int), (NY : Int)] 23 (0, 0) HU.out (by unfold maxLen; simp)
  clear h hn C1 C2 eX eY hx hy hNX hNY
  have tk : Hid True := trivial
  go_enter Try.func47, Try.ntmps47
  go_wp2_with (first
    | (go_at_call 59; go_must (first
        | (refine (HC1.out _).mono ?_; rintro e w1 ⟨rfl, hw1⟩; replace hw1 := hw1.symm; subst hw1; clear HC1)
        | (refine (HC2.out _).mono ?_; rintro e w1 ⟨rfl, hw1⟩; replace hw1 := hw1.symm; subst hw1; clear HC2)))
    | (go_at_call 39; go_must (refine (nums_any _ b l _ [(NX : Int), (NY : Int)] (HF.out.below (balloc (Below.refl _ _) _)) HRU.out (by omega) (by simp) (out_new hlt)).mono ?_; rw [HFL.out]; rintro e w2 ⟨rfl, hf2, hg2⟩))
    | (go_at_call 61; go_must (refine (epoch_any w2 b _ n hf2 (by have := HLen.out; rw [List.length_append]; omega) HN.out).mono ?_; rintro e w3 ⟨rfl, hf3, hg3⟩)))
  go_end0
  refine ⟨rfl, ?_, grown_trans (grown_none (World.grownBy_alloc w _ none) hg2) hg3 (fun k hk => .inl hk)⟩
  rw [HL.out, ← List.append_assoc]
  exact hf3

theorem boundE_any (w : World) (x y n : Int) (hx : I64 x) (hy : I64 y) (hn : I64 n) :
    Calls Try.prog 24 #[.int .i64 x, .int .i64 y, .int .i64 n] w fun e w' => ∃ v, e = .returned v ∧ Own (w.heap.size + 1) 5 w' v (boundL x y n) ∧ Below w.heap.size w w' := by
  have H : Hid (I64 x ∧ I64 y ∧ I64 n) := ⟨hx, hy, hn⟩
  clear hx hy hn
  go_enter Try.func24, Try.ntmps24
  go_wp2_with (go_at_call 47; go_must (refine (bound_any _ w.heap.size [] x y n (fld_new w) (by simp) H.out.1 H.out.2.1 H.out.2.2).mono ?_; rw [List.nil_append]; rintro e w2 ⟨rfl, hf2, hg2⟩; obtain ⟨v, X, own, a, cap, hv⟩ := hf2.rd; subst hv; have x0 := X.cell 0 _ rfl))
  go_ret
  exact ⟨_, rfl, own, bgrown (balloc (Below.refl _ w) _) (Nat.le_refl _) hg2⟩
end Go.Proofs.Ytiebbglknmcnpaa
