/-
  Names: which strings are names; strings.ContainsFunc with the program's own test.
-/
import Derived.Test.YtjlpdoomchkfgaaRow
import Derived.Lib.OthersKept
import Derived.Lib.TrimU
import Derived.Laws.RangeString
import Derived.Shelf.Abstract
namespace Go.Proofs.Ytjlpdoomchkfgaa
set_option linter.unusedVariables false
set_option linter.unusedSimpArgs false
set_option synthInstance.maxSize 20000
set_option maxHeartbeats 2000000
set_option maxRecDepth 20000
open Go.RowKit Go.Maps

def bar (n : Nat) : Bool := n < 32 || n == 127 || n == 47 || n == 126
theorem bar_high {n : Nat} (h : 128 ≤ n) : bar n = false := by
  unfold bar
  simp
  omega
/-- Has it a byte that no name has? -/
def hasBar (s : ByteArray) : Bool := s.data.toList.any (fun b => bar b.toNat)
theorem get_list (s : ByteArray) (i : Nat) (h : i < s.size) : s.data.toList[i]? = some (s.get! i) := by
  have e : s.get! i = s[i]'h := by
    unfold ByteArray.get!
    exact getElem!_pos s.data i h
  rw [e]
  have : i < s.data.toList.length := by simpa using h
  rw [List.getElem?_eq_getElem this]
  rfl
theorem hasBar_iff (s : ByteArray) : hasBar s = true ↔ ∃ i, i < s.size ∧ bar (s.get! i).toNat = true := by
  unfold hasBar
  rw [List.any_eq_true]
  constructor
  · rintro ⟨b, hb, h⟩
    obtain ⟨i, hi⟩ := List.mem_iff_getElem?.1 hb
    have hlt : i < s.size := by
      have := (List.getElem?_eq_some_iff.1 hi).1
      simpa using this
    rw [get_list s i hlt] at hi
    injection hi with hi
    exact ⟨i, hlt, by rw [hi]; exact h⟩
  · rintro ⟨i, hi, h⟩
    exact ⟨_, List.mem_of_getElem? (get_list s i hi), h⟩
theorem decode_bar (s : ByteArray) (pos : Nat) (h : bar (Utf8.decode s pos).1 = true) : bar (s.get! pos).toNat = true := by
  rw [Lib.decode_at] at h
  generalize (s.get! pos).toNat = b0 at *
  by_cases hb : b0 < 128
  · rw [show (Lib.decodeN (s.size - pos) b0 (s.get! (pos + 1)).toNat (s.get! (pos + 2)).toNat (s.get! (pos + 3)).toNat).1 = b0 by unfold Lib.decodeN; rw [if_pos hb]] at h
    exact h
  · exfalso
    have : 128 ≤ (Lib.decodeN (s.size - pos) b0 (s.get! (pos + 1)).toNat (s.get! (pos + 2)).toNat (s.get! (pos + 3)).toNat).1 := by
      unfold Lib.decodeN
      rw [if_neg hb]
      repeat' split
      all_goals (dsimp only; omega)
    rw [bar_high this] at h
    cases h
theorem decode_clear (s : ByteArray) (pos : Nat) (h : bar (Utf8.decode s pos).1 = false) : ∀ i, pos ≤ i → i < pos + (Utf8.decode s pos).2 → bar (s.get! i).toNat = false := by
  intro i h1 h2
  rw [Lib.decode_at] at h h2
  generalize hb0 : (s.get! pos).toNat = b0 at *
  generalize hb1 : (s.get! (pos + 1)).toNat = b1 at *
  generalize hb2 : (s.get! (pos + 2)).toNat = b2 at *
  generalize hb3 : (s.get! (pos + 3)).toNat = b3 at *
  have key : i = pos ∧ (b0 < 128 → bar b0 = false) ∨ i = pos + 1 ∧ 128 ≤ b1 ∨ i = pos + 2 ∧ 128 ≤ b2 ∨ i = pos + 3 ∧ 128 ≤ b3 := by
    by_cases hb : b0 < 128
    · unfold Lib.decodeN at h h2
      rw [if_pos hb] at h h2
      exact .inl ⟨by simp at h2; omega, fun _ => h⟩
    · unfold Lib.decodeN at h2
      rw [if_neg hb] at h2
      repeat' split at h2
      all_goals (dsimp only at h2; omega)
  rcases key with ⟨rfl, k⟩ | ⟨rfl, k⟩ | ⟨rfl, k⟩ | ⟨rfl, k⟩
  · rw [hb0]
    by_cases hb : b0 < 128
    · exact k hb
    · exact bar_high (by omega)
  · rw [hb1]; exact bar_high k
  · rw [hb2]; exact bar_high k
  · rw [hb3]; exact bar_high k
theorem barred42 (n : Nat) (w : World) : Calls Try.prog 80 #[.int .i32 (n : Int)] w fun e w' => e = .returned (.bool (bar n)) ∧ w' = w := by
  have HB : Hid (bar n = (decide (n < 32) || n == 127 || n == 47 || n == 126)) := (rfl : bar n = _)
  go_enter Try.func80, Try.ntmps80
  go_wp2
  all_goals
    go_ret
    refine ⟨ret_bool ?_, rfl⟩
    rw [HB.out]
    simp
    try omega
theorem indexFunc89 (s : ByteArray) (w : World) : Calls Try.prog 105 #[.string s, .func (.func 80) #[] #[], .bool true] w fun e w' => ∃ i : Int, e = .returned (.int .i64 i) ∧ (0 ≤ i ↔ hasBar s = true) ∧ Below w.heap.size w w' := by
  go_enter Try.func105, Try.ntmps105
  go_wp2
  go_loopg [] s.size (fun gf wx => ∃ pos : Nat, wx.heap[w.heap.size]? = some (.stringIter s pos) ∧ Below w.heap.size w wx ∧ Hid (∀ i, i < pos → i < s.size → bar (s.get! i).toNat = false) ∧ s.size ≤ pos + gf)
  case atStart => exact ⟨0, World.iter_heap w s 0, (Below.refl _ w).alloc (Nat.le_refl _) _, (fun i h => by omega), by omega⟩
  case round =>
    obtain ⟨pos, hit, hbw, HC, hfu⟩ := hrel
    by_cases hps : pos < s.size
    · obtain ⟨g', rfl⟩ : ∃ g', gk = g' + 1 := ⟨gk - 1, by omega⟩
      have hnx : ∀ ty, (Instr.next (.pointer (some ⟨w.heap.size, 0, none⟩)) true ty).run Try.prog wr = _ := fun ty => Lib.run_next_any_at wr w.heap.size s pos ty hit hps
      have hwd := Lib.width_pos s pos
      have hdb := decode_bar s pos
      have hdc := decode_clear s pos
      generalize (Utf8.decode s pos).1 = R at *
      generalize (Utf8.decode s pos).2 = K at *
      have hit2 := Lib.iterAt_heap wr w.heap.size s pos (pos + K) hit
      have hbw2 := Lib.below_iterAt hbw (k := w.heap.size) (Nat.le_refl _) s (pos + K)
      generalize wr.iterAt w.heap.size s (pos + K) = W at *
      have HB : Hid (Calls Try.prog 80 #[.int .i32 (R : Int)] W fun e w' => e = .returned (.bool (bar R)) ∧ w' = W) := barred42 R W
      cases hb : bar R
      · rw [hb] at HB
        have HC2 : Hid (∀ i, i < pos + K → i < s.size → bar (s.get! i).toNat = false) := fun i h1 h2 => by
          by_cases hi : i < pos
          · exact HC.out i hi h2
          · exact hdc hb i (by omega) h1
        clear hdb hdc hb
        go_wp2_with (go_at_call 80; go_must (refine HB.out.mono ?_; rintro r w2 ⟨rfl, hw2⟩; replace hw2 := hw2.symm; subst hw2))
        go_roundg g'
        case measure => omega
        case rel => exact ⟨pos + K, hit2, hbw2, HC2, by omega⟩
      · rw [hb] at HB
        have HE : Hid (hasBar s = true) := (hasBar_iff s).2 ⟨pos, hps, hdb hb⟩
        clear hdb hdc hb
        go_wp2_with (go_at_call 80; go_must (refine HB.out.mono ?_; rintro r w2 ⟨rfl, hw2⟩; replace hw2 := hw2.symm; subst hw2))
        go_ret
        exact ⟨_, rfl, ⟨fun _ => HE.out, fun _ => by omega⟩, hbw2⟩
    · have hnx : ∀ ty, (Instr.next (.pointer (some ⟨w.heap.size, 0, none⟩)) true ty).run Try.prog wr = _ := fun ty => Lib.run_next_end_at wr w.heap.size s pos ty hit hps
      have HE : Hid (¬ hasBar s = true) := fun h => by
        obtain ⟨i, hi, hb⟩ := (hasBar_iff s).1 h
        rw [HC.out i (by omega) hi] at hb
        cases hb
      go_wp2
      go_ret
      exact ⟨-1, rfl, ⟨fun h => absurd h (by omega), fun h => absurd h HE.out⟩, hbw⟩
theorem contains41 (s : ByteArray) (w : World) : Calls Try.prog 79 #[.string s, .func (.func 80) #[] #[]] w fun e w' => e = .returned (.bool (hasBar s)) ∧ Below w.heap.size w w' := by
  have HI : Hid (Calls Try.prog 96 #[.string s, .func (.func 80) #[] #[]] w fun e w' => ∃ i : Int, e = .returned (.int .i64 i) ∧ (0 ≤ i ↔ hasBar s = true) ∧ Below w.heap.size w w') := by
    show Calls _ _ _ _ _
    have HI : Hid (Calls Try.prog 105 #[.string s, .func (.func 80) #[] #[], .bool true] w fun e w' => ∃ i : Int, e = .returned (.int .i64 i) ∧ (0 ≤ i ↔ hasBar s = true) ∧ Below w.heap.size w w') := indexFunc89 s w
    go_enter Try.func96, Try.ntmps96
    go_wp2_with (go_at_call 105; go_must (refine HI.out.mono ?_; rintro r w2 ⟨i, rfl, hi, hb⟩; have HX : Hid (0 ≤ i ↔ hasBar s = true) := hi; clear hi))
    go_ret
    exact ⟨_, rfl, HX.out, hb⟩
  go_enter Try.func79, Try.ntmps79
  go_wp2_with (go_at_call 96; go_must (refine HI.out.mono ?_; rintro r w2 ⟨i, rfl, hi, hb⟩; have HX : Hid (0 ≤ i ↔ hasBar s = true) := hi; clear hi))
  go_ret
  exact ⟨ret_bool (by rw [← HX.out]; simp), hb⟩
/-- Is it a name? -/
def nameB (s : ByteArray) : Bool := decide (1 ≤ s.size ∧ s.size ≤ 24) && !(s.toList == [46]) && !(s.toList == [46, 46]) && !hasBar s
theorem name14 (s : ByteArray) (w : World) : Calls Try.prog 74 #[.string s] w fun e w' => e = .returned (.bool (nameB s)) ∧ Below w.heap.size w w' := by
  have HC : Hid (∀ w', Calls Try.prog 79 #[.string s, .func (.func 80) #[] #[]] w' fun e w'' => e = .returned (.bool (hasBar s)) ∧ Below w'.heap.size w' w'') := fun w' => contains41 s w'
  have HN : Hid (nameB s = (decide (1 ≤ s.size ∧ s.size ≤ 24) && !(s.toList == [46]) && !(s.toList == [46, 46]) && !hasBar s)) := (rfl : nameB s = _)
  by_cases h1 : s.size < 1
  · have h1' : (s.size : Int) < 1 := by omega
    have HE : Hid (nameB s = false) := by
      show _ = _
      rw [HN.out, decide_eq_false (by omega)]; rfl
    go_enter Try.func74, Try.ntmps74
    go_wp2
    go_ret
    exact ⟨by rw [HE.out]; rfl, Below.refl _ _⟩
  · have h1' : ¬ (s.size : Int) < 1 := by omega
    by_cases h2 : 24 < s.size
    · have h2' : (24 : Int) < (s.size : Int) := by omega
      have HE : Hid (nameB s = false) := by
        show _ = _
        rw [HN.out, decide_eq_false (by omega)]; rfl
      go_enter Try.func74, Try.ntmps74
      go_wp2
      go_ret
      exact ⟨by rw [HE.out]; rfl, Below.refl _ _⟩
    · have h2' : ¬ (24 : Int) < (s.size : Int) := by omega
      have HN2 : Hid (nameB s = (!(s.toList == [46]) && !(s.toList == [46, 46]) && !hasBar s)) := by
        show _ = _
        rw [HN.out, decide_eq_true (by omega)]; simp
      clear HN
      generalize hasBar s = hb at *
      go_enter Try.func74, Try.ntmps74
      go_wp2_with (go_at_call 79; go_must (refine (HC.out _).mono ?_; rintro r w2 ⟨rfl, hb2⟩))
      all_goals (go_ret)
      all_goals (refine ⟨ret_bool (by (rw [HN2.out]) <;> simp [*]), ?_⟩; first | exact Below.refl _ _ | exact hb2)
end Go.Proofs.Ytjlpdoomchkfgaa
