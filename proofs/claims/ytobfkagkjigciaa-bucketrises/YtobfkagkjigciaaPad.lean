/-
  Padding: what Pad answers, by plain lists, and that the program's Pad and the reference's answer it.
-/
import Derived.Test.YtobfkagkjigciaaRefClass
import Derived.Test.YtobfkagkjigciaaCopy
namespace Go.Proofs.Ytobfkagkjigciaa
set_option linter.unusedVariables false
open Go.RowKit

/-- The form of a text. -/
def bform (x : List Int) : List Int := form x.length ++ x
def padOf (x : List Int) : List Int := if cls x.length = -1 then [] else bform x ++ List.replicate ((sizeI (cls x.length)).toNat - (bform x).length) 0
def padK (x : List Int) : Int := if cls x.length = -1 then 3 else 0

theorem cls_some {n : Nat} (h : cls n ≠ -1) : ∃ c : Nat, c < 7 ∧ cls n = c ∧ n ≤ roomOf c := by
  have h1 := cls_lt n
  obtain ⟨c, hc⟩ := Int.eq_ofNat_of_zero_le (show 0 ≤ cls n by omega)
  exact ⟨c, by omega, hc, (cls_le c n (by omega)).1 ⟨by omega, by omega⟩⟩

/-- A class's size is enough, and not above 1024. -/
theorem cls_size {x : List Int} (h : cls x.length ≠ -1) : ∃ s : Nat, sizeI (cls x.length) = s ∧ (bform x).length ≤ s ∧ 16 ≤ s ∧ s ≤ 1024 := by
  obtain ⟨c, hc, e, hr⟩ := cls_some h
  have hs := sizeI_le c
  rw [e]
  rw [sizeI_nat c hc] at hs ⊢
  refine ⟨_, rfl, ?_, ?_, by omega⟩
  · have := (fits c x.length hc).2 hr
    simp only [bform, List.length_append]
    omega
  · have : 1 ≤ 2 ^ c := Nat.one_le_two_pow
    omega

set_option maxHeartbeats 400000 in
theorem pad_any (v : Value) (l : List Int) (w : World) (hv : Rd w v l) (hl : l.length ≤ 100000000) :
    Calls Try.prog 16 #[v] w fun e w' => ∃ v', e = .returned (.tuple #[v', .int .i64 (padK l)]) ∧ Own w.heap.size 5 w' v' (padOf l) ∧ Below w.heap.size w w' := by
  obtain ⟨a, cap, rfl⟩ := hv.len
  have HCL : Hid (∀ w, Calls Try.prog 8 #[.int .i64 l.length] w fun e w' => e = .returned (.int .i64 (cls l.length)) ∧ Below w.heap.size w w') := fun w => by
    have := class_any l.length w (by omega)
    rwa [clsI_nat] at this
  by_cases h : cls l.length = -1
  · rw [h] at HCL
    have HP : Hid (padOf l = [] ∧ padK l = 3) := ⟨by unfold padOf; rw [if_pos h], by unfold padK; rw [if_pos h]⟩
    clear h
    go_enter Try.func16, Try.ntmps16
    go_wp2_with (first | (go_at_call 8; go_must (refine (HCL.out _).mono ?_; rintro e w1 ⟨rfl, hb1⟩)))
    go_ret2
    rw [HP.out.1, HP.out.2]
    exact ⟨_, rfl, own_nil _ _ _, hb1⟩
  · obtain ⟨s, hs, hle, h16, h1024⟩ := cls_size h
    have HP : Hid (padOf l = bform l ++ (List.replicate s 0).drop (bform l).length ∧ padK l = 0) := ⟨by unfold padOf; rw [if_neg h, hs]; simp, by unfold padK; rw [if_neg h]⟩
    have HS : Hid (∀ w, Calls Try.prog 10 #[.int .i64 (cls l.length)] w fun e w' => e = .returned (.int .i64 s) ∧ w' = w) := fun w => by
      have := size_any (cls l.length) w
      rwa [hs] at this
    have hne : (cls l.length == -1) = false := by simpa using h
    clear h hs
    generalize cls l.length = c at *
    go_enter Try.func16, Try.ntmps16
    go_wp2_with (first | (go_at_call 8; go_must (refine (HCL.out _).mono ?_; rintro e w1 ⟨rfl, hb1⟩)) | (go_at_call 10; go_must (refine (HS.out _).mono ?_; rintro e w2 ⟨rfl, rfl⟩)) | (at_make; go_must (refine wpList_make_bytes 26 5 byteTy rfl (.tmp 12) (.tmp 12) rfl .i64 .i64 _ _ s s rfl rfl rfl rfl (Nat.le_refl _) (by omega) ?_; have hown2 := own_made w2 5 s s (Nat.le_refl _) (by unfold maxLen; omega); have hb2 := balloc hb1 (.cells (cs8 (List.replicate s 0)).toArray 5); have hv2 := hv.below hb2)) | (go_at_call 28; go_must (refine (bytes_any _ _ [] l _ (rd_nil _) hv2 (by simp) (by omega)).mono ?_; rintro e w3 ⟨v3, rfl, hown3, hb3⟩; have hown4 := hown2.kept (below_grown hb3))) | (refine wpList_copy_into 26 5 byteTy rfl (.tmp 14) (.tmp 16) rfl w2.heap.size _ _ rfl hown4 _ _ rfl hown3.rd (by simpa [bform] using hle) w2 (bnext ((Below.refl _ _).alloc (Nat.le_refl _) _) hb3) ?_; intro w5 hown5 hb5))
    go_ret2
    rw [HP.out.1, HP.out.2]
    refine ⟨_, rfl, ?_, ?_⟩
    · have : ([] ++ form l.length ++ l) = bform l := rfl
      rw [this] at hown5
      exact hown5.lower hb1.size
    · exact bnext hb1 hb5
end Go.Proofs.Ytobfkagkjigciaa
