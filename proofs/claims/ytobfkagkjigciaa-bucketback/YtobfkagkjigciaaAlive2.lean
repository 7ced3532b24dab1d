/-
  The chapter's example comes: 'alive' of layer 2 answers true.
-/
import Derived.Test.YtobfkagkjigciaaUnpad
import Derived.Lib.SlBytesConst
namespace Go.Proofs.Ytobfkagkjigciaa
set_option linter.unusedVariables false
open Go.RowKit

/-- A row of bytes in a new block, whatever its mark. -/
theorem rd_row (w : World) (l : List Int) (e : TypeId) (m : Nat × Nat) (ho : Oct l) (hl : l.length ≤ maxLen) : Rd (w.alloc (.cells (cs8 l).toArray e m)) (.slice (some ⟨w.heap.size, 0, none⟩) l.length l.length) l := by
  refine ⟨ho, some ⟨w.heap.size, 0, none⟩, l.length, rfl, Nat.le_refl _, hl, (fun h => by cases h), fun _ => ⟨w.heap.size, 0, rfl, fun j hj => ?_⟩⟩
  have hh : (w.alloc (.cells (cs8 l).toArray e m)).heap[w.heap.size]? = some (.cells (cs8 l).toArray e m) := by
    show (w.heap.push _)[w.heap.size]? = _
    simp
  unfold World.cell?
  simp only [hh, Nat.zero_add]
  simpa using cs8_at l j hj
theorem rd_twoM (w : World) (x y : Int) (e : TypeId) (m : Nat × Nat) (hx : 0 ≤ x ∧ x < 256) (hy : 0 ≤ y ∧ y < 256) : Rd (w.alloc (.cells #[.int .u8 x, .int .u8 y] e m)) (.slice (some ⟨w.heap.size, 0, none⟩) 2 2) [x, y] :=
  rd_row w [x, y] e m (Oct.cons hx (Oct.cons hy Oct.nil)) (by simp [maxLen])

theorem padAB : padOf [97, 98] = [2, 97, 98, 0, 0, 0, 0, 0, 0, 0, 0, 0, 0, 0, 0, 0] ∧ padK [97, 98] = 0 := by
  have hb : bform [97, 98] = [2, 97, 98] := by unfold bform; rw [form_lt (by decide)]; rfl
  constructor
  · unfold padOf; rw [hb]; decide
  · decide

set_option maxHeartbeats 400000 in
theorem alive_any (w : World) : Calls Try.prog 15 #[] w fun e w' => e = .returned (.bool true) ∧ Below w.heap.size w w' := by
  have hb0 : Below w.heap.size w (w.alloc (.cells #[.int .u8 97, .int .u8 98] 5 (2, 3))) := (Below.refl _ _).alloc (Nat.le_refl _) _
  have hr0 := rd_twoM w 97 98 5 (2, 3) (by omega) (by omega)
  have kc := fun (w : World) (C : Array Value) (n c : Nat) => Lib.run_convert_bytes_const (P := Try.prog) w 26 5 C n c Try.underlying26 Try.underlying5
  have HR : Hid (∀ w, Calls Try.prog 12 #[.int .i64 0] w fun e w' => e = .returned (.int .i64 15) ∧ Below w.heap.size w w') := fun w => room_any 0 w
  go_enter Try.func15, Try.ntmps15
  go_wp2_with (first | (go_at_call 16; go_must (refine (pad_any _ [97, 98] _ hr0 (by simp)).mono ?_; rw [padAB.1, padAB.2]; rintro e w1 ⟨v1, rfl, hown1, hb1⟩; obtain ⟨ho, a1, c1, rfl, h1, h2, h3, h4⟩ := hown1.rd; obtain ⟨b1, off, rfl, hc⟩ := h4 (by simp); have c0 := hc 0 (by simp); have c01 := hc 1 (by simp); have c03 := hc 3 (by simp); rw [Nat.add_zero] at c0; simp only [List.getD_cons_zero, List.getD_cons_succ] at c0 c01 c03; clear hc h4 h3 ho; unfold maxLen at h2; simp only [List.length_cons, List.length_nil] at h1)) | (go_at_call 14; go_must (refine (classes_any _).mono ?_; rintro e w2 ⟨rfl, rfl⟩)) | (go_at_call 12; go_must (refine (HR.out _).mono ?_; rintro e w3 ⟨rfl, hb3⟩)))
  go_ret
  exact ⟨rfl, bnext (bnext hb0 hb1) hb3⟩
end Go.Proofs.Ytobfkagkjigciaa
