/-
  A vector's bytes are read as it, and bytes that are read are its: lists and numbers alone.
-/
import Derived.Test.YtdjfedlkfekeoaaVecBytes
namespace Go.Proofs.Ytdjfedlkfekeoaa
set_option linter.unusedVariables false
set_option linter.unusedSimpArgs false

theorem rNum_form {n : Nat} (hn : n < 18446744073709551616) (r : List Int) (k : Int) : rNum (form n ++ r) k = (n, r, k) := by
  unfold rNum
  rw [parse_form n 0 r (by omega) (by simpa using hn) (.inl rfl)]
theorem rCount_form {n : Nat} {most : Int} (hn : n < 18446744073709551616) (hm : (n : Int) ≤ most) (r : List Int) (k : Int) : rCount (form n ++ r) k most = ((n : Int), r, k) := by
  unfold rCount
  rw [rNum_form hn]
  dsimp only
  rw [if_neg (by omega)]
theorem takeH_form {h : H} (hr : rightH h) (ho : HOk h) (r : List Int) : takeH (bytesH h ++ r) 0 = (h, r, 0) := by
  obtain ⟨x1, x2, x3⟩ := h
  obtain ⟨h1, h2, h3, h4, h5⟩ := hr
  obtain ⟨_, _, h6, h7⟩ := ho
  dsimp only at h1 h2 h3 h4 h5 h6 h7
  unfold takeH bytesH
  dsimp only
  rw [List.append_assoc, List.append_assoc, rCount_form (by omega) (by omega)]
  dsimp only
  rw [rCount_form (by omega) (by omega)]
  dsimp only
  rw [rNum_form (by omega)]
  dsimp only
  rw [Int.toNat_of_nonneg h1, Int.toNat_of_nonneg (by omega), Int.toNat_of_nonneg h6]
theorem takesTo_form {l : List H} (hr : ∀ h ∈ l, rightH h) (ho : ∀ h ∈ l, HOk h) : ∀ j, j ≤ l.length → takesTo (l.flatMap bytesH) 0 j = (l.take j, (l.drop j).flatMap bytesH, 0)
  | 0, _ => by simp [takesTo]
  | j + 1, hj => by
    have ih := takesTo_form hr ho j (by omega)
    have hjl : j < l.length := by omega
    show ((takesTo (l.flatMap bytesH) 0 j).1 ++ [(takeH (takesTo (l.flatMap bytesH) 0 j).2.1 (takesTo (l.flatMap bytesH) 0 j).2.2).1], (takeH (takesTo (l.flatMap bytesH) 0 j).2.1 (takesTo (l.flatMap bytesH) 0 j).2.2).2) = _
    rw [ih]
    dsimp only
    rw [List.drop_eq_getElem_cons hjl, List.flatMap_cons, takeH_form (hr _ (List.getElem_mem hjl)) (ho _ (List.getElem_mem hjl)), List.take_succ_eq_append_getElem hjl]
theorem read_bytes {l : List H} (hr : RightV l) (ho : ∀ h ∈ l, HOk h) : readV (bytesTo l l.length) = (l, 0) := by
  have h8 := hr.len8
  have e : bytesTo l l.length = form l.length ++ l.flatMap bytesH := by unfold bytesTo; rw [List.take_length]
  unfold readV
  rw [e, rCount_form (by omega) (by omega)]
  dsimp only
  rw [Int.toNat_natCast, takesTo_form hr.1 ho l.length (Nat.le_refl _), List.take_length, List.drop_length]
  unfold endV
  rw [if_pos (by simp [doneK]), rightB_true hr]
  rfl

theorem rNum_inv {l : List Int} {k : Int} (ho : Oct l) (h : (rNum l k).2.2 = 0) : k = 0 ∧ l = form (rNum l k).1 ++ (rNum l k).2.1 ∧ Oct (rNum l k).2.1 := by
  unfold rNum at h ⊢
  cases hp : parse 0 l with
  | none =>
    rw [hp] at h
    dsimp only at h
    split at h
    · cases h
    · rename_i hk; exact absurd h hk
  | some q =>
    obtain ⟨n, r⟩ := q
    rw [hp] at h
    dsimp only at h ⊢
    have e := (numAt_some ho hp).2.1
    exact ⟨h, e, (Oct.of_append (e ▸ ho)).2⟩
theorem rCount_inv {l : List Int} {k most : Int} (ho : Oct l) (h : (rCount l k most).2.2 = 0) : k = 0 ∧ l = form (rCount l k most).1.toNat ++ (rCount l k most).2.1 ∧ Oct (rCount l k most).2.1 := by
  unfold rCount at h ⊢
  by_cases hm : most < ((rNum l k).1 : Int)
  · rw [if_pos hm] at h
    dsimp only at h
    split at h
    · cases h
    · rename_i hk; exact absurd h hk
  · rw [if_neg hm] at h ⊢
    dsimp only at h ⊢
    rw [Int.toNat_natCast]
    exact rNum_inv ho h
theorem rNum_keep (m : List Int) {q : Int} (hq : q ≠ 0) : (rNum m q).2.2 ≠ 0 := by
  unfold rNum
  split
  · exact hq
  · dsimp only; rw [if_neg hq]; exact hq
theorem rCount_keep (m : List Int) {q : Int} (most : Int) (hq : q ≠ 0) : (rCount m q most).2.2 ≠ 0 := by
  have := rNum_keep m hq
  unfold rCount
  by_cases hm : most < ((rNum m q).1 : Int)
  · rw [if_pos hm]
    dsimp only
    rw [if_neg this]
    exact this
  · rw [if_neg hm]
    exact this
theorem takeH_inv {l : List Int} {k : Int} (ho : Oct l) (h : (takeH l k).2.2 = 0) : k = 0 ∧ l = bytesH (takeH l k).1 ++ (takeH l k).2.1 ∧ Oct (takeH l k).2.1 := by
  unfold takeH bytesH at *
  dsimp only at h ⊢
  by_cases h1 : (rCount l k 7).2.2 = 0
  · obtain ⟨e1, e2, e3⟩ := rCount_inv ho h1
    by_cases h2 : (rCount (rCount l k 7).2.1 (rCount l k 7).2.2 200).2.2 = 0
    · obtain ⟨_, g2, g3⟩ := rCount_inv e3 h2
      obtain ⟨_, f2, f3⟩ := rNum_inv g3 h
      refine ⟨e1, ?_, f3⟩
      rw [Int.toNat_natCast, List.append_assoc, List.append_assoc, ← f2, ← g2, ← e2]
    · exact absurd h (rNum_keep _ h2)
  · exact absurd h (rNum_keep _ (rCount_keep _ _ h1))
theorem takesTo_inv {l : List Int} {k : Int} (ho : Oct l) : ∀ j, (takesTo l k j).2.2 = 0 → k = 0 ∧ l = (takesTo l k j).1.flatMap bytesH ++ (takesTo l k j).2.1 ∧ Oct (takesTo l k j).2.1
  | 0, h => ⟨h, by simp [takesTo], ho⟩
  | j + 1, h => by
    have hs : takesTo l k (j + 1) = ((takesTo l k j).1 ++ [(takeH (takesTo l k j).2.1 (takesTo l k j).2.2).1], (takeH (takesTo l k j).2.1 (takesTo l k j).2.2).2) := rfl
    rw [hs] at h ⊢
    dsimp only at h ⊢
    have hk : (takesTo l k j).2.2 = 0 := by
      refine Decidable.byContradiction fun hne => ?_
      unfold takeH at h
      exact rNum_keep _ (rCount_keep _ _ (rCount_keep _ _ hne)) h
    obtain ⟨e1, e2, e3⟩ := takesTo_inv ho j hk
    obtain ⟨_, g2, g3⟩ := takeH_inv e3 h
    refine ⟨e1, ?_, g3⟩
    rw [List.flatMap_append, List.flatMap_singleton, List.append_assoc, ← g2, ← e2]
theorem bytes_read {m : List Int} {a : List H} (ho : Oct m) (h : readV m = (a, 0)) : bytesV a = (m, 0) := by
  unfold readV at h
  have hd : doneK (takesTo (rCount m 0 8).2.1 (rCount m 0 8).2.2 (rCount m 0 8).1.toNat).2.1 (takesTo (rCount m 0 8).2.1 (rCount m 0 8).2.2 (rCount m 0 8).1.toNat).2.2 = 0 := by
    refine Decidable.byContradiction fun hne => ?_
    unfold endV at h
    rw [if_neg hne] at h
    exact hne (congrArg Prod.snd h)
  generalize hs : takesTo (rCount m 0 8).2.1 (rCount m 0 8).2.2 (rCount m 0 8).1.toNat = s at h hd
  have hr : rightB s.1 = true := by
    cases e : rightB s.1 with
    | true => rfl
    | false =>
      unfold endV at h
      rw [if_pos hd, e] at h
      have := congrArg Prod.snd h
      cases this
  have ha : a = s.1 := by
    unfold endV at h
    rw [if_pos hd, hr] at h
    exact (congrArg Prod.fst h).symm
  have hk : s.2.2 = 0 ∧ s.2.1 = [] := by
    unfold doneK at hd
    split at hd
    · cases hd
    · rename_i hn
      refine ⟨hd, List.eq_nil_of_length_eq_zero ?_⟩
      refine Nat.eq_zero_of_not_pos fun hp => hn ⟨hd, hp⟩
  have hlen := takesTo_len (rCount m 0 8).2.1 (rCount m 0 8).2.2 (rCount m 0 8).1.toNat
  rw [hs] at hlen
  have hc : (rCount m 0 8).2.2 = 0 ∧ True := by
    refine ⟨?_, trivial⟩
    refine Decidable.byContradiction fun hne => ?_
    have hgone : (rCount m 0 8).2.1 = [] := by
      unfold rCount at hne ⊢
      split
      · rfl
      · rename_i hm
        rw [if_neg hm] at hne
        exact (rNum_zero m 0 (fun h => absurd rfl h) hne).2
    have := takesTo_stuck (l := (rCount m 0 8).2.1) (k := (rCount m 0 8).2.2) (j := 0) hne (by rw [hgone]; rfl) (rCount m 0 8).1.toNat
    rw [Nat.zero_add, hs] at this
    rw [this] at hk
    exact hne hk.1
  obtain ⟨_, c2, c3⟩ := rCount_inv ho hc.1
  obtain ⟨_, t2, _⟩ := takesTo_inv c3 (rCount m 0 8).1.toNat (by rw [hs]; exact hk.1)
  rw [hs, hk.2, List.append_nil] at t2
  rw [t2] at c2
  rw [ha, bytesV_right (rightB_iff.1 hr)]
  refine Prod.ext ?_ rfl
  show bytesTo s.1 s.1.length = m
  unfold bytesTo
  rw [List.take_length, hlen]
  exact c2.symm
theorem readV_nil {m : List Int} (h : (readV m).2 ≠ 0) : (readV m).1 = [] := by
  unfold readV endV at *
  split
  · rename_i hd
    rw [if_pos hd] at h
    split
    · rename_i hr
      rw [if_pos hr] at h
      exact absurd rfl h
    · rfl
  · rfl
end Go.Proofs.Ytdjfedlkfekeoaa
