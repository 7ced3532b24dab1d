/-
  A row of operations copied.
-/
import Derived.Test.YtjlpdoomchkfgaaRow
namespace Go.Proofs.Ytjlpdoomchkfgaa
set_option linter.unusedVariables false
set_option linter.unusedSimpArgs false
set_option synthInstance.maxSize 20000
set_option maxHeartbeats 2000000
set_option maxRecDepth 20000
open Go.RowKit Go.Maps

set_option maxRecDepth 20000 in
theorem clone48 {w : World} {v : Value} {l : List OpT} (hv : RowF oc w v l) (hfew : l.length ≤ 100000) :
    Calls Try.prog 67 #[v] w fun r w' => ((l = [] ∧ r = .returned (.slice none 0 0)) ∨ ∃ g cap, r = .returned (.slice (some ⟨g, 0, none⟩) l.length cap) ∧ w.heap.size ≤ g ∧ Row w' g l.length cap l) ∧ Below w.heap.size w w' := by
  have HV : Hid (RowF oc w v l) := hv
  obtain ⟨a, cap, rfl, h2, h3, h4, h5⟩ := hv
  cases a with
  | none =>
    have hc := h4 rfl
    subst hc
    have hl0 : l = [] := List.eq_nil_of_length_eq_zero (by omega)
    subst hl0
    have hq := eql_slice 22 40 (by kernel_rfl) w none 0 0
    go_enter Try.func67, Try.ntmps67
    go_wp2
    go_ret
    refine ⟨.inl ?_, Below.refl _ _⟩
    first | rfl | exact ⟨rfl, rfl⟩
  | some ad =>
    have hq := eql_slice 22 40 (by kernel_rfl) w (some ad) l.length cap
    have HO : Hid ((w.alloc (.cells #[] 40)).ownsRow 0 40 10 (.slice (some ⟨w.heap.size, 0, none⟩) 0 0) ([] : List OpT).length (flat oc [])) :=
      ⟨rfl, .inr ⟨w.heap.size, 0, #[], rfl, Nat.zero_le _, heap_alloc_new w _, Nat.le_refl _, Nat.zero_le _, rfl, rfl⟩⟩
    have HB : Hid (Below w.heap.size w (w.alloc (.cells #[] 40))) := (show Below _ _ _ from balloc (Below.refl _ _) _)
    have HF : Hid (l.length ≤ 100000) := hfew
    clear h5 hfew
    go_enter Try.func67, Try.ntmps67
    go_wp2_with (at_builtin; go_must (refine wpList_append_rows ty28 oc_len (by omega) rfl (.tmp 5) (.tmp 6) rfl _ [] rfl HO.out _ l rfl (HV.out.below HB.out) (flat_oc_one _) (by simp; have := HF.out; omega) ?_; intro v2 w2 hown2 hg2 hwh2))
    go_ret
    refine ⟨?_, bgrown HB.out (Nat.le_refl _) hg2⟩
    have hown3 : w2.ownsRow 0 40 10 v2 l.length (flat oc l) := by simpa using hown2
    have hge : ∀ k, v2.ownBlock = some k → w.heap.size ≤ k := fun k hk => by
      rcases hwh2 k hk with r | r
      · cases r
        exact Nat.le_refl _
      · have := HB.out.size
        omega
    have hown4 := hown3
    obtain ⟨_, hh⟩ := hown3
    rcases hh with ⟨e, h0⟩ | ⟨g, c2, cur, e, i1, i2, i3, i4, i5, i6⟩
    · subst e
      exact .inl ⟨List.eq_nil_of_length_eq_zero h0, rfl⟩
    · subst e
      exact .inr ⟨g, c2, rfl, hge g rfl, rfl, hown4⟩
end Go.Proofs.Ytjlpdoomchkfgaa
