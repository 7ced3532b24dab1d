/-
  What the laws ask of a room by numbers alone.
-/
import Derived.Test.YtjbpfhnagiacmaaGreatRmM
import Derived.Test.YtjbpfhnagiacmaaGreatRm2
import Derived.Test.YtjbpfhnagiacmaaGreatCls
namespace Go.Proofs.YtjbpfhnagiacmaaGreat
set_option linter.unusedVariables false
set_option linter.unusedSimpArgs false
set_option synthInstance.maxSize 20000
set_option maxHeartbeats 2000000
set_option maxRecDepth 20000
open Go.RowKit Go.Maps
theorem seal_yes {S : St} {k : Int} {b p : List Int} (hk : S.at k = some .key) (hc : cls p.length ≠ -1) : S.seal k b p = ((boxOf S.fresh (zerosOf p), 0), S.put (.seal k b p)) := by
  unfold St.seal
  rw [if_pos hk, if_neg hc]
theorem open_box {S : St} {g k k' : Int} {b b' p : List Int} (hg : U64 g) (h : S.at g = some (.seal k' b' p)) : S.open k b (boxOf g (zerosOf p)) = if k' = k then (if b' = b then (p, 0) else ([], 5)) else ([], 11) := by
  unfold St.open
  rw [find_box hg, h]
  show (if boxOf g (zerosOf p) = boxOf (ofBe8 (boxOf g (zerosOf p))) (zerosOf p) then _ else _) = _
  rw [if_pos (box_own hg _)]
theorem cls_no {n : Nat} : cls n ≠ -1 ↔ n ≤ 1022 := by
  unfold cls
  constructor
  · intro h
    by_cases h2 : n ≤ 1022
    · exact h2
    · exact absurd (by repeat rw [if_neg (by omega)]) h
  · intro h
    (repeat' split) <;> omega
section
variable {R : Rn} {k : Nat} {p s : Int} {K : List Int} {O : List (List Int)}
theorem RI.keyA (h : RI R k p s K O) {i : Nat} (hi : i < k) : ∃ x, keyM R.A.ks i = (x, 0) ∧ R.S.at x = some .key ∧ U64 x :=
  ⟨K.getD i 0, h.a.yes h.hist h.ora.good hi, h.hist.key i (by rw [h.kl]; exact hi), (h.hist.ne h.ora.good (by rw [h.kl]; exact hi)).1⟩
theorem RI.keyX (h : RI R k p s K O) {i : Nat} (hi : i < k) : keyM R.X.ks i = (0, 11) := h.x.not (Nat.zero_le i) (by rw [h.kl]; exact hi)
theorem keyM_out {ks : List Int} {n : Int} (h : n < 0 ∨ (ks.length : Int) ≤ n) : keyM ks n = (0, 2) := by
  unfold keyM
  rw [if_pos h]
theorem u64_0 : U64 0 := by unfold U64; omega
theorem RI.keyN (h : RI R k p s K O) (n : Int) : U64 (keyM R.A.ks n).1 ∧ ((keyM R.A.ks n).2 = 0 → R.S.at (keyM R.A.ks n).1 = some .key) := by
  have hl : R.A.ks.length = k := by rw [h.a.kl, h.kl]
  by_cases ho : n < 0 ∨ (R.A.ks.length : Int) ≤ n
  · rw [keyM_out ho]
    exact ⟨u64_0, fun e => absurd e (by decide)⟩
  · obtain ⟨i, rfl⟩ : ∃ i : Nat, n = i := ⟨n.toNat, by omega⟩
    obtain ⟨x, h1, h2, h3⟩ := h.keyA (i := i) (by omega)
    rw [h1]
    exact ⟨h3, fun _ => h2⟩
theorem sealM_nil {S : St} {kk : Int × Int} {x y n : Int} {pl : List Int} (h : (sealM S kk x y n pl).1.2 ≠ 0) : (sealM S kk x y n pl).1.1 = [] := by
  unfold sealM at *
  by_cases hp : placeB x y n = true
  · rw [if_pos hp] at *
    by_cases h0 : kk.2 = 0
    · rw [if_pos h0] at *
      unfold St.seal at *
      by_cases h1 : S.at kk.1 = some .key
      · rw [if_pos h1] at *
        by_cases h2 : cls pl.length = -1
        · rw [if_pos h2] at *
        · rw [if_neg h2] at h
          exact absurd rfl h
      · rw [if_neg h1] at *
    · rw [if_neg h0] at *
  · rw [if_neg hp] at *
theorem sealM_ok {S : St} {kk : Int × Int} {x y n : Int} {pl : List Int} (h : (sealM S kk x y n pl).1.2 = 0) (hk : kk.2 = 0 → S.at kk.1 = some .key) :
    placeB x y n = true ∧ kk.2 = 0 ∧ cls pl.length ≠ -1 ∧ sealM S kk x y n pl = ((boxOf S.fresh (zerosOf pl), 0), S.put (.seal kk.1 (boundL x y n) pl)) := by
  by_cases hp : placeB x y n = true
  · by_cases h0 : kk.2 = 0
    · have h1 := hk h0
      by_cases h2 : cls pl.length = -1
      · unfold sealM St.seal at h
        rw [if_pos hp, if_pos h0, if_pos h1, if_pos h2] at h
        exact absurd h (show ¬ (3 : Int) = 0 by decide)
      · refine ⟨hp, h0, h2, ?_⟩
        unfold sealM
        rw [if_pos hp, if_pos h0, seal_yes h1 h2]
    · unfold sealM at h
      rw [if_pos hp, if_neg h0] at h
      exact absurd h h0
  · unfold sealM at h
    rw [if_neg hp] at h
    exact absurd h (show ¬ (1 : Int) = 0 by decide)
theorem sealM_ora {S : St} {N : Nat} (h : Ora S N) (hN : N ≤ 80000) {kk : Int × Int} (hk : kk.2 = 0 → S.at kk.1 = some .key) (x y n : Int) {pl : List Int} (ho : Oct pl) (hl : pl.length ≤ 1000000) : Ora (sealM S kk x y n pl).2 (N + 1) := by
  by_cases h0 : (sealM S kk x y n pl).1.2 = 0
  · obtain ⟨h1, h2, h3, h4⟩ := sealM_ok h0 hk
    rw [h4]
    refine h.put (by omega) (x := .seal kk.1 (boundL x y n) pl) ⟨(at_ok h.good (hk h2)).1, ?_, ho⟩ (fun _ _ e => by cases e) (fun _ _ _ e => by cases e) (fun k b p e => by cases e; exact hl)
    unfold boundL
    exact (Oct.append (Oct.append (form_oct _) (form_oct _)) (form_oct _))
  · have : (sealM S kk x y n pl).2 = S := by
      unfold sealM at *
      by_cases hp : placeB x y n = true
      · rw [if_pos hp] at *
        by_cases h1 : kk.2 = 0
        · rw [if_pos h1] at *
          unfold St.seal at *
          by_cases h2 : S.at kk.1 = some .key
          · rw [if_pos h2] at *
            by_cases h3 : cls pl.length = -1
            · rw [if_pos h3]
            · rw [if_neg h3] at h0
              exact absurd rfl h0
          · rw [if_neg h2]
        · rw [if_neg h1]
      · rw [if_neg hp]
    rw [this]
    exact h.le (by omega)
theorem placeB_iff {x y n : Int} : placeB x y n = true ↔ ((0 ≤ x ∧ x ≤ 7) ∧ (0 ≤ y ∧ y ≤ 199) ∧ (0 ≤ n ∧ n ≤ 19)) := by
  unfold placeB
  exact decide_eq_true_iff
def entP (x y n : Int) (b : List Int) : Ent := ⟨x, y, if 0 < y then 1 else 0, 1, x, n, b, 0⟩
theorem entP_right {x y n : Int} {b : List Int} (hp : placeB x y n = true) (hb : b.length ≤ 1100) : eRight (entP x y n b) = true := by
  rw [eRight_iff]
  obtain ⟨h1, h2, h3⟩ := placeB_iff.1 hp
  unfold rightE rightP entP
  dsimp only
  refine ⟨h1, h2, ?_, ⟨by omega, by omega⟩, rfl, by omega, hb⟩
  split <;> constructor <;> intro h <;> omega
theorem zeros_le (pl : List Int) : zerosOf pl ≤ 1024 := by
  unfold zerosOf
  have := sizeI_le (cls pl.length)
  omega
theorem open_back {S : St} {N : Nat} (h : Ora S N) (hN : N ≤ 80000) {kk : Int × Int} (h0 : kk.2 = 0) (hk : S.at kk.1 = some .key) {x y n : Int} {pl : List Int} (hp : placeB x y n = true) :
    openM (S.put (.seal kk.1 (boundL x y n) pl)) kk (entP x y n (boxOf S.fresh (zerosOf pl))) = (pl, 0) := by
  have hf := (fresh_ok h.good (by have := h.len; omega)).2.2.1
  have ha : (S.put (.seal kk.1 (boundL x y n) pl)).at S.fresh = some (.seal kk.1 (boundL x y n) pl) := at_put_new h.good (by have := h.len; omega) _
  have hr := entP_right (b := boxOf S.fresh (zerosOf pl)) hp (by rw [boxOf_length]; have := zeros_le pl; omega)
  have h3 := (placeB_iff.1 hp).2.2
  unfold openM
  rw [if_pos hr, if_neg (by show ¬ n = -1; omega), if_pos h0]
  show St.open _ kk.1 (boundL x y n) (boxOf S.fresh (zerosOf pl)) = _
  rw [open_box hf ha, if_pos rfl, if_pos rfl]
theorem open_else {S : St} {N : Nat} (h : Ora S N) (hN : N ≤ 80000) {k0 : Int} {kk : Int × Int} {x y n : Int} {pl : List Int} (hp : placeB x y n = true) {a b c : Int} (ha' : I64 a) (hb' : I64 b) (hc' : I64 c) (hne : ¬ (a = x ∧ b = y ∧ c = n)) :
    (openM (S.put (.seal k0 (boundL x y n) pl)) kk (entP a b c (boxOf S.fresh (zerosOf pl)))).2 ≠ 0 := by
  have hf := (fresh_ok h.good (by have := h.len; omega)).2.2.1
  have ha : (S.put (.seal k0 (boundL x y n) pl)).at S.fresh = some (.seal k0 (boundL x y n) pl) := at_put_new h.good (by have := h.len; omega) _
  unfold openM
  by_cases hr : eRight (entP a b c (boxOf S.fresh (zerosOf pl))) = true
  · rw [if_pos hr]
    have hq := (eRight_iff _).1 hr
    unfold rightE entP at hq
    dsimp only at hq
    by_cases hc : (entP a b c (boxOf S.fresh (zerosOf pl))).n = -1
    · rw [if_pos hc]
      decide
    · rw [if_neg hc]
      by_cases h0 : kk.2 = 0
      · rw [if_pos h0]
        show (St.open _ kk.1 (boundL a b c) (boxOf S.fresh (zerosOf pl))).2 ≠ 0
        rw [open_box hf ha]
        by_cases h1 : k0 = kk.1
        · rw [if_pos h1]
          have hbd : boundL x y n ≠ boundL a b c := fun e => by
            obtain ⟨p1, p2, p3⟩ := placeB_iff.1 hp
            have hd := bound_inj (w := x) (i := y) (n := n) (x := a) (y := b) (z := c) (by unfold I64; omega) (by unfold I64; omega) (by unfold I64; omega) ha' hb' hc'
            rw [decide_eq_true e] at hd
            have hd2 := of_decide_eq_true hd.symm
            omega
          rw [if_neg hbd]
          decide
        · rw [if_neg h1]
          decide
      · rw [if_neg h0]
        exact h0
  · rw [if_neg hr]
    decide
theorem seal_alike (S : St) (kk : Int × Int) (x y n : Int) {a b : List Int} (h : cls a.length = cls b.length) : (sealM S kk x y n a).1 = (sealM S kk x y n b).1 := by
  have hz : zerosOf a = zerosOf b := by unfold zerosOf; rw [h]
  unfold sealM St.seal
  rw [h, hz]
  by_cases hp : placeB x y n = true
  · rw [if_pos hp, if_pos hp]
    by_cases h0 : kk.2 = 0
    · rw [if_pos h0, if_pos h0]
      by_cases h1 : S.at kk.1 = some .key
      · rw [if_pos h1, if_pos h1]
        by_cases h2 : cls b.length = -1
        · rw [if_pos h2, if_pos h2]
        · rw [if_neg h2, if_neg h2]
      · rw [if_neg h1, if_neg h1]
    · rw [if_neg h0, if_neg h0]
  · rw [if_neg hp, if_neg hp]
theorem class_box (g : Int) {pl : List Int} (h : cls pl.length ≠ -1) : classE (boxOf g (zerosOf pl)).length = cls pl.length := by
  have h1 := cls_lt pl.length
  obtain ⟨c, hc⟩ : ∃ c : Nat, cls pl.length = c := ⟨(cls pl.length).toNat, by omega⟩
  rw [boxOf_length]
  unfold zerosOf
  rw [hc, sizeI_nat c (by omega)]
  exact classE_hit (by omega) (by rw [Int.toNat_natCast])
end
end Go.Proofs.YtjbpfhnagiacmaaGreat
