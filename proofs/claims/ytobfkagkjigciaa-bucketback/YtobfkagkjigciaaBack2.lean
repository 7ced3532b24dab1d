/-
  The walk of BucketBack.
-/
import Derived.Test.YtobfkagkjigciaaLaws
namespace Go.Proofs.Ytobfkagkjigciaa
set_option linter.unusedVariables false
open Go.RowKit

theorem own_empty (w : World) (e : TypeId) : Own w.heap.size e (w.alloc (.cells #[] e)) (.slice (some ⟨w.heap.size, 0, none⟩) 0 0) [] :=
  ⟨Oct.nil, rfl, .inr ⟨w.heap.size, 0, #[], rfl, Nat.le_refl _, heap_alloc_new w _, Nat.le_refl _, Nat.zero_le _, rfl, rfl⟩⟩

/-- What is padded comes back; with a byte more or less it does not. -/
theorem unpad_back {b x : List Int} {k : Int} (hb : Oct b) (hx : Oct x) (h : padK b = 0) (hu : UnpadIs (padOf b) x k) : b = x ∧ 0 = k :=
  UnpadIs.one hb hx (.inl ⟨rfl, h, rfl⟩) hu
theorem unpad_more {b x : List Int} {k : Int} (h : padK b = 0) (hu : UnpadIs (padOf b ++ [0]) x k) : 4 = k := by
  rcases hu with ⟨_, h1, h2⟩ | ⟨rfl, _⟩
  · have := pad_pre (r := []) (s := [0]) h1 h (by rw [List.append_nil]; exact h2)
    subst this
    have := congrArg List.length h2
    simp at this
  · rfl
theorem unpad_less {b x : List Int} {k : Int} (h : padK b = 0) (hu : UnpadIs ((padOf b).take ((padOf b).length - 1)) x k) : 4 = k := by
  have hl := padOf_len h
  rcases hu with ⟨_, h1, h2⟩ | ⟨rfl, _⟩
  · have := pad_pre (r := (padOf b).drop ((padOf b).length - 1)) (s := []) h1 h (by rw [h2]; simp)
    subst this
    have := congrArg List.length h2
    simp at this
    omega
  · rfl

set_option maxHeartbeats 1600000 in
set_option maxRecDepth 20000 in
theorem back_walk (v x : Value) (b c : List Int) (w : World) (hv : Rd w v b) (hx : Rd w x c) :
    Calls Try.prog 5 #[v, x] w fun e w' => e = .returned (.bool true) ∧ Below w.heap.size w w' := by
  obtain ⟨av, cv, rfl⟩ := hv.len
  obtain ⟨ax, cx, rfl⟩ := hx.len
  have HA : Hid (∀ w, Calls Try.prog 15 #[] w fun e w' => e = .returned (.bool true) ∧ Below w.heap.size w w') := alive_any
  by_cases h1 : b.length > 2000
  · go_enter Try.func5, Try.ntmps5
    go_wp2_with (go_at_call 15; go_must (refine (HA.out _).mono ?_; rintro e w1 ⟨rfl, hb1⟩))
    go_ret
    exact ⟨rfl, hb1⟩
  by_cases h2 : c.length > 2000
  · go_enter Try.func5, Try.ntmps5
    go_wp2_with (go_at_call 15; go_must (refine (HA.out _).mono ?_; rintro e w1 ⟨rfl, hb1⟩))
    go_ret
    exact ⟨rfl, hb1⟩
  rcases padK_or b with hk | hk
  case' inl =>
    have hlen := padOf_len hk
    have hnil : ¬ padOf b = [] := fun h => by rw [h] at hlen; simp at hlen
    go_enter Try.func5, Try.ntmps5
    go_wp2_with fail
    refine (pad_any _ b _ hv (by omega)).mono ?_
    rw [hk]
    rintro e w1 ⟨v1, rfl, hp1, hb1⟩
    obtain ⟨a1, c1, rfl⟩ := hp1.rd.len
    go_wp2_with fail
    refine (unpad_any _ (padOf b) _ hp1.rd (by omega)).mono ?_
    rintro e w2 ⟨v2, x2, k2, rfl, hr2, hu2, hb2⟩
    obtain ⟨rfl, rfl⟩ := unpad_back hv.oct hr2.oct hk hu2
    clear hu2
    have hB2 := bnext hb1 hb2
    have hp2 := hp1.rd.below hb2
    have hbuilt := own_empty w2 5
    have hp2' := hp2.below (w' := w2.alloc (.cells #[] 5)) ((Below.refl _ _).alloc (Nat.le_refl _) _)
    go_wp2_with (at_builtin; go_must (first | (refine wpList_append_cells 26 5 byteTy rfl (.tmp 37) (.tmp 38) rfl w2.heap.size _ [] rfl hbuilt _ (padOf b) rfl hp2' (by rw [List.length_nil]; omega) (by simp) ?_; intro v3 w3 hown3 hg3; have hz := rd_one w3 0 5 (by omega); have hown3' := hown3.alloc (.cells #[.int .u8 0] 5); have hb3 : Below w2.heap.size w2 w3 := hbuilt.below ((Below.refl _ _).alloc (Nat.le_refl _) _) (Nat.le_refl _) hg3; clear hg3 hbuilt hp2') | (refine wpList_append_cells 26 5 byteTy rfl (.tmp 39) (.tmp 40) rfl w2.heap.size _ _ rfl hown3' _ [0] rfl hz (by simp; omega) (by simp; have := hb3.size; omega) ?_; intro v4 w4 hown4 hg4; have hb4 : Below w2.heap.size w2 w4 := hown3'.below (hb3.alloc (by have := hb3.size; omega) _) (Nat.le_refl _) hg4; clear hg4 hown3 hown3' hz hb3)))
    rw [List.nil_append] at hown4
    have hB4 := bnext hB2 hb4
    refine (unpad_any _ _ _ hown4.rd (by simp; omega)).mono ?_
    rintro e w5 ⟨v5, x5, k5, rfl, hr5, hu5, hb5⟩
    obtain rfl := unpad_more hk hu5
    clear hu5
    have hB5 := bnext hB4 hb5
    have hp5 := (hp2.below hb4).below hb5
    go_wp2_with fail
    refine (same_any _ _ b b _ ((hr2.below hb4).below hb5) (hv.below hB5)).mono ?_
    rw [decide_eq_true rfl]
    rintro e w6 ⟨rfl, hb6⟩
    have hB6 := bnext hB5 hb6
    have hp6 := hp5.below hb6
    clear hB5 hB4 hb5 hb4 hp5 hp2 hown4 hr5 hb6
    have hcap := hp6.cap.2
    go_wp2_with fail
    refine (unpad_any _ ((padOf b).take ((padOf b).length - 1)) _ (rd_head hp6 (by omega)) (by simp; omega)).mono ?_
    rintro e wq ⟨v7, x7, k7, rfl, hr7, hu7, hb7⟩
    obtain rfl := unpad_less hk hu7
    have HB := hid (bnext hB6 hb7)
    clear hu7 hB6 hb7 hr7 hp6
    go_wp2_with fail
  case' inr =>
    go_enter Try.func5, Try.ntmps5
    go_wp2_with fail
    refine (pad_any _ b _ hv (by omega)).mono ?_
    rw [hk]
    rintro e wq ⟨v1, rfl, hp1, hb1⟩
    have HB := hid hb1
    clear hb1
    go_wp2_with fail
  all_goals
    refine (unpad_any _ c _ (hx.below HB.out) (by omega)).mono ?_
    rintro e w8 ⟨v8, x8, k8, rfl, hr8, hu8, hb8⟩
    replace HB := hid (bnext HB.out hb8)
    obtain ⟨a8, c8, rfl⟩ := hr8.len
    rcases hu8 with ⟨rfl, hk8, he8⟩ | ⟨rfl, rfl, _⟩
    · go_wp2_with fail
      refine (pad_any _ x8 _ hr8 (by have := padK_len hk8; omega)).mono ?_
      rw [hk8]
      rintro e w9 ⟨v9, rfl, hp9, hb9⟩
      replace HB := hid (bnext HB.out hb9)
      go_wp2_with (first | (go_at_call 20; go_must (refine (same_any _ _ _ c _ hp9.rd (hx.below HB.out)).mono ?_; rw [decide_eq_true he8]; rintro e w10 ⟨rfl, hb10⟩; replace HB := hid (bnext HB.out hb10); clear hb10)) | (go_at_call 15; go_must (refine (HA.out _).mono ?_; rintro e w11 ⟨rfl, hb11⟩; replace HB := hid (bnext HB.out hb11); clear hb11)))
      go_ret
      exact ⟨rfl, HB.out⟩
    · go_wp2_with (go_at_call 15; go_must (refine (HA.out _).mono ?_; rintro e w11 ⟨rfl, hb11⟩; replace HB := hid (bnext HB.out hb11); clear hb11))
      go_ret
      exact ⟨rfl, HB.out⟩
end Go.Proofs.Ytobfkagkjigciaa
