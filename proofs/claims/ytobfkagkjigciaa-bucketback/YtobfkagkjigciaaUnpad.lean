/-
  Unpadding: what Unpad answers, told by Pad alone, and that the program's Unpad and the reference's answer it.
-/
import Derived.Test.YtobfkagkjigciaaRefPad
import Derived.Test.YtobfkagkjigciaaEqual
import Derived.Test.YtobfkagkjigciaaRefReader2
import Derived.Test.YtobfkagkjigciaaSame
namespace Go.Proofs.Ytobfkagkjigciaa
set_option linter.unusedVariables false
open Go.RowKit

/-- x is the text of l; or there is none. -/
def UnpadIs (l x : List Int) (k : Int) : Prop := (k = 0 ∧ padK x = 0 ∧ padOf x = l) ∨ (k = 4 ∧ x = [] ∧ ∀ y, Oct y → padK y = 0 → padOf y ≠ l)

theorem padK_zero {x : List Int} (h : padK x = 0) : cls x.length ≠ -1 := by
  intro e
  unfold padK at h
  rw [if_pos e] at h
  cases h
theorem padOf_eq {x : List Int} (h : padK x = 0) : padOf x = form x.length ++ (x ++ List.replicate ((sizeI (cls x.length)).toNat - (bform x).length) 0) := by
  unfold padOf
  rw [if_neg (padK_zero h), bform, List.append_assoc]
theorem padK_len {x : List Int} (h : padK x = 0) : x.length ≤ 1022 := by
  obtain ⟨c, hc, _, hr⟩ := cls_some (padK_zero h)
  have : roomOf c ≤ 1022 := by unfold roomOf; (repeat' split) <;> omega
  omega
theorem padOf_len {x : List Int} (h : padK x = 0) : 16 ≤ (padOf x).length ∧ (padOf x).length ≤ 1024 := by
  obtain ⟨s, hs, h1, h2, h3⟩ := cls_size (padK_zero h)
  unfold padOf
  rw [if_neg (padK_zero h), hs]
  simp
  omega

/-- What stands at the head of bytes that begin with a padded text. -/
theorem pad_parse {x r : List Int} (h : padK x = 0) : ∃ t, parse 0 (padOf x ++ r) = some (x.length, x ++ t) := by
  have := padK_len h
  rw [padOf_eq h, List.append_assoc, List.append_assoc]
  exact ⟨_, parse_form x.length 0 _ (by omega) (by simp; omega) (.inl rfl)⟩

theorem pad_pre {x y r s : List Int} (hx : padK x = 0) (hy : padK y = 0) (h : padOf x ++ r = padOf y ++ s) : x = y := by
  obtain ⟨t, ht⟩ := pad_parse (r := r) hx
  obtain ⟨u, hu⟩ := pad_parse (r := s) hy
  rw [h, hu] at ht
  simp only [Option.some.injEq, Prod.mk.injEq] at ht
  exact ((List.append_inj ht.2 ht.1).1).symm

theorem pad_rNum {x : List Int} (h : padK x = 0) : ∃ t, rNum (padOf x) 0 = (x.length, x ++ t, 0) := by
  obtain ⟨t, ht⟩ := pad_parse (r := []) h
  rw [List.append_nil] at ht
  exact ⟨t, by unfold rNum; rw [ht]⟩

theorem pad_rBytes {x : List Int} (h : padK x = 0) : (rBytes (padOf x) 0 (padOf x).length).1 = x := by
  obtain ⟨t, ht⟩ := pad_rNum h
  have hl := padOf_eq h
  have : x.length ≤ (padOf x).length := by rw [hl]; simp; omega
  unfold rBytes
  rw [ht, if_neg (by simp), if_neg (by simpa using this)]
  simp

theorem pad_refBytes {x : List Int} (h : padK x = 0) : (refBytes (padOf x) 0 2000).1 = x ∧ (refBytes (padOf x) 0 2000).2.2 = 0 := by
  obtain ⟨t, ht⟩ := pad_rNum h
  have := padK_len h
  have hc : refCount (padOf x) 0 2000 = (x.length, x ++ t, 0) := by
    unfold refCount
    rw [ht, if_neg (by simp; omega)]
  unfold refBytes
  rw [hc, if_neg (by simp), if_neg (by simp)]
  simp

theorem unpadIs_prog (l : List Int) : UnpadIs l (if padK (rBytes l 0 l.length).1 = 0 ∧ padOf (rBytes l 0 l.length).1 = l then (rBytes l 0 l.length).1 else []) (if padK (rBytes l 0 l.length).1 = 0 ∧ padOf (rBytes l 0 l.length).1 = l then 0 else 4) := by
  split
  · rename_i h
    exact .inl ⟨rfl, h.1, h.2⟩
  · rename_i h
    refine .inr ⟨rfl, rfl, fun y hy hk e => h ?_⟩
    subst e
    rw [pad_rBytes hk]
    exact ⟨hk, rfl⟩

theorem unpadIs_ref (l : List Int) : UnpadIs l (if (refBytes l 0 2000).2.2 = 0 ∧ padK (refBytes l 0 2000).1 = 0 ∧ padOf (refBytes l 0 2000).1 = l then (refBytes l 0 2000).1 else []) (if (refBytes l 0 2000).2.2 = 0 ∧ padK (refBytes l 0 2000).1 = 0 ∧ padOf (refBytes l 0 2000).1 = l then 0 else 4) := by
  split
  · rename_i h
    exact .inl ⟨rfl, h.2⟩
  · rename_i h
    refine .inr ⟨rfl, rfl, fun y hy hk e => h ?_⟩
    subst e
    rw [(pad_refBytes hk).1, (pad_refBytes hk).2]
    exact ⟨rfl, hk, rfl⟩

theorem UnpadIs.one {l x y : List Int} {k j : Int} (hx : Oct x) (hy : Oct y) (h1 : UnpadIs l x k) (h2 : UnpadIs l y j) : x = y ∧ k = j := by
  rcases h1 with ⟨rfl, a, b⟩ | ⟨rfl, rfl, a⟩ <;> rcases h2 with ⟨rfl, c, d⟩ | ⟨rfl, rfl, c⟩
  · exact ⟨pad_pre (r := []) (s := []) a c (by rw [b, d]), rfl⟩
  · exact absurd b (c x hx a)
  · exact absurd d (a y hy c)
  · exact ⟨rfl, rfl⟩

theorem rBytes_len (l : List Int) (k most : Int) (ho : Oct l) : (rBytes l k most).1.length ≤ l.length := by
  have := rNum_len l k ho
  unfold rBytes
  split
  · simp
  · split
    · simp
    · simp; omega

set_option maxHeartbeats 400000 in
theorem unpad_any (v : Value) (l : List Int) (w : World) (hv : Rd w v l) (hl : l.length ≤ 100000000) :
    Calls Try.prog 18 #[v] w fun e w' => ∃ v' x k, e = .returned (.tuple #[v', .int .i64 k]) ∧ Rd w' v' x ∧ UnpadIs l x k ∧ Below w.heap.size w w' := by
  obtain ⟨a, cap, rfl⟩ := hv.len
  have HU : Hid (UnpadIs l (if padK (rBytes l 0 l.length).1 = 0 ∧ padOf (rBytes l 0 l.length).1 = l then (rBytes l 0 l.length).1 else []) (if padK (rBytes l 0 l.length).1 = 0 ∧ padOf (rBytes l 0 l.length).1 = l then 0 else 4)) := unpadIs_prog l
  have hlen := rBytes_len l 0 l.length hv.oct
  have HB : Hid (∀ w b, Rdr w b l 0 → Calls Try.prog 31 #[ptr b, .int .i64 l.length] w fun e w' => ∃ v, e = .returned v ∧ Rd w' v (rBytes l 0 l.length).1 ∧ w.grownBy w' (some b)) := fun w b hr =>
    (rbytes_any w b l 0 l.length hr (by omega) (by omega)).mono fun e w' ⟨v, he, h1, h2, h3⟩ => ⟨v, he, h1, h3⟩
  generalize (rBytes l 0 l.length).1 = t at *
  by_cases hk : padK t = 0
  · by_cases he : padOf t = l
    · rw [if_pos ⟨hk, he⟩, if_pos ⟨hk, he⟩] at HU
      have HE : Hid (padOf t = l) := he
      clear he
      go_enter Try.func18, Try.ntmps18
      go_wp2_with (first | (go_at_call 30; go_must (refine (read_any _ _ l hv (by omega)).mono ?_; rintro e w1 ⟨b, rfl, hb, hr1, hg1⟩; have hb1 := grown_below hg1)) | (go_at_call 31; go_must (refine (HB.out _ b hr1).mono ?_; rintro e w2 ⟨v2, rfl, hv2, hg2⟩; have hb2 := bgrown hb1 hb hg2; clear hg2)) | (go_at_call 16; go_must (refine (pad_any _ t _ hv2 (by omega)).mono ?_; rw [hk]; rintro e w3 ⟨v3, rfl, hown3, hb3⟩)) | (go_at_call 32; go_must (refine (equal_any _ _ _ l _ hown3.rd (hv.below (bnext hb2 hb3))).mono ?_; rw [decide_eq_true HE.out]; rintro e w4 ⟨rfl, rfl⟩)))
      go_ret2
      exact ⟨_, t, 0, rfl, hv2.below hb3, HU.out, bnext hb2 hb3⟩
    · rw [if_neg (fun h => he h.2), if_neg (fun h => he h.2)] at HU
      have HE : Hid (¬ padOf t = l) := he
      clear he
      go_enter Try.func18, Try.ntmps18
      go_wp2_with (first | (go_at_call 30; go_must (refine (read_any _ _ l hv (by omega)).mono ?_; rintro e w1 ⟨b, rfl, hb, hr1, hg1⟩; have hb1 := grown_below hg1)) | (go_at_call 31; go_must (refine (HB.out _ b hr1).mono ?_; rintro e w2 ⟨v2, rfl, hv2, hg2⟩; have hb2 := bgrown hb1 hb hg2; clear hg2)) | (go_at_call 16; go_must (refine (pad_any _ t _ hv2 (by omega)).mono ?_; rw [hk]; rintro e w3 ⟨v3, rfl, hown3, hb3⟩)) | (go_at_call 32; go_must (refine (equal_any _ _ _ l _ hown3.rd (hv.below (bnext hb2 hb3))).mono ?_; rw [decide_eq_false HE.out]; rintro e w4 ⟨rfl, rfl⟩)))
      go_ret2
      exact ⟨_, [], 4, rfl, rd_nil _, HU.out, bnext hb2 hb3⟩
  · rw [if_neg (fun h => hk h.1), if_neg (fun h => hk h.1)] at HU
    have hk3 : padK t = 3 := by unfold padK at hk ⊢; split at hk <;> simp_all
    clear hk
    go_enter Try.func18, Try.ntmps18
    go_wp2_with (first | (go_at_call 30; go_must (refine (read_any _ _ l hv (by omega)).mono ?_; rintro e w1 ⟨b, rfl, hb, hr1, hg1⟩; have hb1 := grown_below hg1)) | (go_at_call 31; go_must (refine (HB.out _ b hr1).mono ?_; rintro e w2 ⟨v2, rfl, hv2, hg2⟩; have hb2 := bgrown hb1 hb hg2; clear hg2)) | (go_at_call 16; go_must (refine (pad_any _ t _ hv2 (by omega)).mono ?_; rw [hk3]; rintro e w3 ⟨v3, rfl, hown3, hb3⟩)))
    go_ret2
    exact ⟨_, [], 4, rfl, rd_nil _, HU.out, bnext hb2 hb3⟩

theorem refBytes_len (l : List Int) (k most : Int) (ho : Oct l) : (refBytes l k most).1.length ≤ l.length := by
  have := rNum_len l k ho
  have h2 : (refCount l k most).2.1.length ≤ l.length := by unfold refCount; split <;> simp [this]
  unfold refBytes
  split
  · simp
  · split
    · simp
    · simp; omega

theorem hid {p : Prop} (h : p) : Hid p := h
theorem padK_or (t : List Int) : padK t = 0 ∨ padK t = 3 := by unfold padK; split <;> simp

set_option maxHeartbeats 400000 in
theorem refunpad_any (v : Value) (l : List Int) (w : World) (hv : Rd w v l) (hl : l.length ≤ 100000000) :
    Calls Try.prog 19 #[v] w fun e w' => ∃ v' x k, e = .returned (.tuple #[v', .int .i64 k]) ∧ Rd w' v' x ∧ UnpadIs l x k ∧ Below w.heap.size w w' := by
  obtain ⟨a, cap, rfl⟩ := hv.len
  have HU := hid (unpadIs_ref l)
  have hlen := refBytes_len l 0 2000 hv.oct
  have HB : Hid (∀ w b, Rdr w b l 0 → Calls Try.prog 33 #[ptr b, .int .i64 2000] w fun e w' => ∃ v, e = .returned v ∧ Rd w' v (refBytes l 0 2000).1 ∧ Rdr w' b (refBytes l 0 2000).2.1 (refBytes l 0 2000).2.2 ∧ w.grownBy w' (some b)) := fun w b hr =>
    refrbytes_any w b l 0 2000 hr (by omega) (by omega)
  generalize (refBytes l 0 2000).1 = t, (refBytes l 0 2000).2.1 = l', (refBytes l 0 2000).2.2 = q at *
  have hb0 : Below w.heap.size w (w.alloc (.cells #[.slice a l.length cap, .int .i64 0] 45)) := (Below.refl _ _).alloc (Nat.le_refl _) _
  have hr0 := rdr_new w _ l 45 hv
  by_cases hc : q = 0 ∧ padK t = 0 ∧ padOf t = l
  · rw [if_pos hc, if_pos hc] at HU
    obtain ⟨rfl, hk, he⟩ := hc
    have HE : Hid (padOf t = l) := he
    clear he
    go_enter Try.func19, Try.ntmps19
    go_wp2_with (first | (go_at_call 33; go_must (refine (HB.out _ _ hr0).mono ?_; rintro e w2 ⟨v2, rfl, hv2, hr2, hg2⟩; have hb2 := bgrown hb0 (Nat.le_refl _) hg2; clear hg2)) | (go_at_call 17; go_must (refine (refpad_any _ t _ hv2 (by omega)).mono ?_; rw [hk]; rintro e w3 ⟨v3, rfl, hown3, hb3⟩; have hw3 := (hr2.kept (below_grown hb3)).wrong)) | (go_at_call 20; go_must (refine (same_any _ _ _ l _ hown3.rd (hv.below (bnext hb2 hb3))).mono ?_; rw [decide_eq_true HE.out]; rintro e w4 ⟨rfl, hb4⟩)))
    go_ret2
    exact ⟨_, t, 0, rfl, (hv2.below hb3).below hb4, HU.out, bnext (bnext hb2 hb3) hb4⟩
  · rw [if_neg hc, if_neg hc] at HU
    by_cases hq : q = 0
    · subst hq
      rcases padK_or t with hk | hk
      · have he : ¬ padOf t = l := fun e => hc ⟨rfl, hk, e⟩
        have HE : Hid (¬ padOf t = l) := he
        clear he hc
        go_enter Try.func19, Try.ntmps19
        go_wp2_with (first | (go_at_call 33; go_must (refine (HB.out _ _ hr0).mono ?_; rintro e w2 ⟨v2, rfl, hv2, hr2, hg2⟩; have hb2 := bgrown hb0 (Nat.le_refl _) hg2; clear hg2)) | (go_at_call 17; go_must (refine (refpad_any _ t _ hv2 (by omega)).mono ?_; rw [hk]; rintro e w3 ⟨v3, rfl, hown3, hb3⟩; have hw3 := (hr2.kept (below_grown hb3)).wrong)) | (go_at_call 20; go_must (refine (same_any _ _ _ l _ hown3.rd (hv.below (bnext hb2 hb3))).mono ?_; rw [decide_eq_false HE.out]; rintro e w4 ⟨rfl, hb4⟩)))
        go_ret2
        exact ⟨_, [], 4, rfl, rd_nil _, HU.out, bnext (bnext hb2 hb3) hb4⟩
      · clear hc
        go_enter Try.func19, Try.ntmps19
        go_wp2_with (first | (go_at_call 33; go_must (refine (HB.out _ _ hr0).mono ?_; rintro e w2 ⟨v2, rfl, hv2, hr2, hg2⟩; have hb2 := bgrown hb0 (Nat.le_refl _) hg2; clear hg2)) | (go_at_call 17; go_must (refine (refpad_any _ t _ hv2 (by omega)).mono ?_; rw [hk]; rintro e w3 ⟨v3, rfl, hown3, hb3⟩; have hw3 := (hr2.kept (below_grown hb3)).wrong)))
        go_ret2
        exact ⟨_, [], 4, rfl, rd_nil _, HU.out, bnext hb2 hb3⟩
    · have hq' : (q != 0) = true := by simpa using hq
      clear hc hq
      go_enter Try.func19, Try.ntmps19
      go_wp2_with (first | (go_at_call 33; go_must (refine (HB.out _ _ hr0).mono ?_; rintro e w2 ⟨v2, rfl, hv2, hr2, hg2⟩; have hb2 := bgrown hb0 (Nat.le_refl _) hg2; clear hg2)) | (go_at_call 17; go_must (refine (refpad_any _ t _ hv2 (by omega)).mono ?_; rintro e w3 ⟨v3, rfl, hown3, hb3⟩; have hw3 := (hr2.kept (below_grown hb3)).wrong)))
      go_ret2
      exact ⟨_, [], 4, rfl, rd_nil _, HU.out, bnext hb2 hb3⟩
end Go.Proofs.Ytobfkagkjigciaa
