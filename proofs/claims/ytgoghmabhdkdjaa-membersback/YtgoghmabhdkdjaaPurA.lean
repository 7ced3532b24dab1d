/-
  What Apply does, by lists: members stay in order, and by who they are; whoever was revoked stays so.
-/
import Derived.Test.YtgoghmabhdkdjaaApp
namespace Go.Proofs.Ytgoghmabhdkdjaa
set_option linter.unusedVariables false
set_option linter.unusedSimpArgs false
set_option synthInstance.maxSize 20000
set_option maxHeartbeats 2000000
set_option maxRecDepth 20000
open Go.RowKit Go.Maps

def Srt (l : List Mb) : Prop := l.Pairwise (fun a b => a.w < b.w)
theorem atW_iff {who : Int} {m : Mb} : atW who m = true ↔ m.w = who := by unfold atW; simp
theorem findM_cons (x : Mb) (r : List Mb) (who : Int) : findM (x :: r) who = if x.w = who then some x else findM r who := by
  unfold findM
  rw [List.find?_cons]
  by_cases h : x.w = who
  · rw [if_pos h, atW_iff.2 h]
  · rw [if_neg h]
    have : atW who x = false := by unfold atW; simp [h]
    rw [this]
theorem findM_nil (who : Int) : findM [] who = none := rfl
theorem findM_some {l : List Mb} {who : Int} {m : Mb} (h : findM l who = some m) : m ∈ l ∧ m.w = who := ⟨List.mem_of_find?_eq_some h, atW_iff.1 (List.find?_some h)⟩
theorem findM_none {l : List Mb} {who : Int} (h : findM l who = none) : ∀ m ∈ l, m.w ≠ who := fun m hm e => by
  have := List.find?_eq_none.1 h m hm
  exact this (atW_iff.2 e)
theorem findM_of {l : List Mb} (hs : Srt l) {m : Mb} (hm : m ∈ l) : findM l m.w = some m := by
  induction l with
  | nil => cases hm
  | cons x r ih =>
    rw [findM_cons]
    have h1 := List.pairwise_cons.1 hs
    rcases List.mem_cons.1 hm with rfl | hm
    · rw [if_pos rfl]
    · have := h1.1 m hm
      rw [if_neg (by omega)]
      exact ih h1.2 hm
theorem roomM_cons (who : Int) (x : Mb) (r : List Mb) : roomM who (x :: r) = if who < x.w then 0 else roomM who r + 1 := by
  unfold roomM
  rw [List.findIdx?_cons]
  by_cases h : who < x.w
  · rw [if_pos h]
    have : overW who x = true := by unfold overW; simp [h]
    simp [this]
  · rw [if_neg h]
    have : overW who x = false := by unfold overW; simp; omega
    rw [this]
    cases hh : r.findIdx? (overW who) <;> simp
theorem insL_nil (m : Mb) : insL [] m = [m] := rfl
theorem insL_cons (x : Mb) (r : List Mb) (m : Mb) : insL (x :: r) m = if m.w < x.w then m :: x :: r else x :: insL r m := by
  unfold insL
  rw [roomM_cons]
  by_cases h : m.w < x.w
  · simp [h]
  · simp [h]
theorem insL_mem (l : List Mb) (m y : Mb) : y ∈ insL l m ↔ y = m ∨ y ∈ l := by
  unfold insL
  rw [List.mem_append, List.mem_cons]
  have h := List.take_append_drop (roomM m.w l) l
  constructor
  · rintro (h1 | h1 | h1)
    · exact .inr (List.mem_of_mem_take h1)
    · exact .inl h1
    · exact .inr (List.mem_of_mem_drop h1)
  · rintro (h1 | h1)
    · exact .inr (.inl h1)
    · rw [← h, List.mem_append] at h1
      rcases h1 with h1 | h1
      · exact .inl h1
      · exact .inr (.inr h1)
theorem insL_srt {l : List Mb} {m : Mb} (hs : Srt l) (hn : findM l m.w = none) : Srt (insL l m) := by
  induction l with
  | nil => rw [insL_nil]; unfold Srt; simp
  | cons x r ih =>
    have h1 := List.pairwise_cons.1 hs
    have hx := findM_none hn x (by simp)
    have hr : findM r m.w = none := by rw [findM_cons, if_neg hx] at hn; exact hn
    rw [insL_cons]
    split
    · rename_i h2
      refine List.pairwise_cons.2 ⟨fun y hy => ?_, hs⟩
      rcases List.mem_cons.1 hy with rfl | hy
      · exact h2
      · have := h1.1 y hy; omega
    · refine List.pairwise_cons.2 ⟨fun y hy => ?_, ih h1.2 hr⟩
      rcases (insL_mem r m y).1 hy with rfl | hy
      · omega
      · exact h1.1 y hy
theorem insL_length (l : List Mb) (m : Mb) : (insL l m).length = l.length + 1 := mid_len l _ m (roomM_le _ _)
/-- The first member of that number, changed. -/
def setW (who : Int) (g : Mb → Mb) : List Mb → List Mb
  | [] => []
  | x :: r => if x.w = who then g x :: r else x :: setW who g r
theorem idxG_cons {α : Type} (p : α → Bool) (x : α) (r : List α) : idxG p (x :: r) = if p x = true then 0 else if idxG p r < 0 then -1 else idxG p r + 1 := by
  unfold idxG
  rw [List.findIdx?_cons]
  by_cases h : p x = true
  · simp [h]
  · simp [h]
    cases hh : r.findIdx? p <;> simp
    omega
theorem idxG_nonneg {l : List Mb} {who : Int} {m : Mb} (h : findM l who = some m) : 0 ≤ idxG (atW who) l := by
  rcases idxG_find (l := l) (p := atW who) with ⟨h1, _⟩ | ⟨i, m', h1, h2, _⟩
  · unfold findM at h; rw [h1] at h; cases h
  · rw [h2]; omega
theorem set_idx {l : List Mb} {who : Int} {m : Mb} (g : Mb → Mb) (h : findM l who = some m) : l.set (idxG (atW who) l).toNat (g m) = setW who g l := by
  induction l with
  | nil => cases h
  | cons x r ih =>
    rw [findM_cons] at h
    rw [idxG_cons, setW]
    by_cases hx : x.w = who
    · rw [if_pos hx] at h
      cases h
      rw [if_pos hx, if_pos (atW_iff.2 hx)]
      rfl
    · rw [if_neg hx] at h
      have h0 := idxG_nonneg h
      rw [if_neg hx, if_neg (fun e => hx (atW_iff.1 e)), if_neg (by omega)]
      have : (idxG (atW who) r + 1).toNat = (idxG (atW who) r).toNat + 1 := by omega
      rw [this, List.set_cons_succ, ih h]
theorem setW_length (who : Int) (g : Mb → Mb) (l : List Mb) : (setW who g l).length = l.length := by
  induction l with
  | nil => rfl
  | cons x r ih => rw [setW]; split <;> simp [ih]
theorem setW_find {l : List Mb} {who : Int} {m : Mb} {g : Mb → Mb} (hg : ∀ m, (g m).w = m.w) (h : findM l who = some m) : findM (setW who g l) who = some (g m) := by
  induction l with
  | nil => cases h
  | cons x r ih =>
    rw [findM_cons] at h
    rw [setW]
    by_cases hx : x.w = who
    · rw [if_pos hx] at h
      cases h
      rw [if_pos hx, findM_cons, if_pos (by rw [hg]; exact hx)]
    · rw [if_neg hx] at h
      rw [if_neg hx, findM_cons, if_neg hx]
      exact ih h
theorem setW_mem {l : List Mb} {who : Int} {g : Mb → Mb} {y : Mb} (h : y ∈ setW who g l) : y ∈ l ∨ ∃ x ∈ l, x.w = who ∧ y = g x := by
  induction l with
  | nil => cases h
  | cons x r ih =>
    rw [setW] at h
    split at h
    · rename_i hx
      rcases List.mem_cons.1 h with rfl | h
      · exact .inr ⟨x, by simp, hx, rfl⟩
      · exact .inl (by simp [h])
    · rcases List.mem_cons.1 h with rfl | h
      · exact .inl (by simp)
      · rcases ih h with h | ⟨z, hz, h1, h2⟩
        · exact .inl (by simp [h])
        · exact .inr ⟨z, by simp [hz], h1, h2⟩
theorem setW_keeps {l : List Mb} (hs : Srt l) {who : Int} {g : Mb → Mb} {m : Mb} (hm : m ∈ l) : if m.w = who then g m ∈ setW who g l else m ∈ setW who g l := by
  induction l with
  | nil => cases hm
  | cons x r ih =>
    have h1 := List.pairwise_cons.1 hs
    rw [setW]
    rcases List.mem_cons.1 hm with rfl | hm
    · split <;> simp
    · have h2 := ih h1.2 hm
      have h3 := h1.1 m hm
      by_cases hx : x.w = who
      · rw [if_pos hx, if_neg (by omega)]
        simp [hm]
      · rw [if_neg hx]
        by_cases hmw : m.w = who
        · rw [if_pos hmw] at h2 ⊢; simp [h2]
        · rw [if_neg hmw] at h2 ⊢; simp [h2]
theorem setW_srt {l : List Mb} (hs : Srt l) {who : Int} {g : Mb → Mb} (hg : ∀ m, (g m).w = m.w) : Srt (setW who g l) := by
  induction l with
  | nil => exact hs
  | cons x r ih =>
    have h1 := List.pairwise_cons.1 hs
    rw [setW]
    split
    · exact List.pairwise_cons.2 ⟨fun y hy => by rw [hg]; exact h1.1 y hy, h1.2⟩
    · refine List.pairwise_cons.2 ⟨fun y hy => ?_, ih h1.2⟩
      rcases setW_mem hy with h | ⟨z, hz, _, rfl⟩
      · exact h1.1 y h
      · rw [hg]; exact h1.1 z hz
/-- Members stay by who they are. -/
def Keeps (l l' : List Mb) : Prop := ∀ m ∈ l, ∃ m' ∈ l', m'.w = m.w ∧ m'.p = m.p ∧ m'.f = m.f ∧ (m.t ≠ -1 → m' = m)
theorem Keeps.refl (l : List Mb) : Keeps l l := fun m hm => ⟨m, hm, rfl, rfl, rfl, fun _ => rfl⟩
structure MOk (S : Sm) : Prop where
  e : EOk S.e
  srt : Srt S.l
theorem goneM_w (m : Mb) (e lim : Int) : (goneM m e lim).w = m.w := rfl
theorem revL_on {l : List Mb} {e : Int} {c : Cg} {m : Mb} (h : findM l c.w = some m) (ho : on m = true) : revL l e c = setW c.w (fun m => goneM m e c.l) l := by
  unfold revL
  have h' : l.find? (atW c.w) = some m := h
  rw [h']
  simp only [ho, if_true]
  exact set_idx (fun m => goneM m e c.l) h
theorem apply_kind {S : Sm} {c : Cg} (h : (applyM S c).2 = 0) : rightB c = true ∧ turnK S c = 0 ∧ (applyM S c).1 = turnS S c := by
  unfold applyM at h ⊢
  by_cases hr : rightB c = true
  · rw [if_pos hr] at h ⊢
    by_cases ht : turnK S c = 0
    · rw [if_pos ht] at h ⊢
      exact ⟨hr, ht, rfl⟩
    · rw [if_neg ht] at h
      exact absurd h ht
  · rw [if_neg hr] at h
    simp at h
/-- What Apply did, of each kind. -/
theorem apply_cases {S : Sm} {c : Cg} (h : (applyM S c).2 = 0) :
    (c.k = 1 ∧ rightB c = true ∧ findM S.l c.w = none ∧ (applyM S c).1 = ⟨insL S.l (newM S.e c), S.e⟩) ∨
    (c.k = 2 ∧ rightB c = true ∧ ∃ m, findM S.l c.w = some m ∧ m.t = -1 ∧ (applyM S c).1 = ⟨setW c.w (fun m => goneM m S.e c.l) S.l, S.e⟩) ∨
    (c.k = 3 ∧ rightB c = true ∧ S.e < 19 ∧ begK S.l S.e c = 0 ∧ (applyM S c).1 = ⟨S.l, S.e + 1⟩) := by
  obtain ⟨h1, h2, h3⟩ := apply_kind h
  rw [h3]
  unfold turnK at h2
  unfold turnS
  rcases right_kind h1 with hk | hk | hk
  · refine .inl ⟨hk, h1, ?_⟩
    rw [if_pos hk] at h2
    rw [if_pos hk]
    unfold invK at h2
    unfold invL
    cases hf : findM S.l c.w with
    | none => simp
    | some m => rw [hf] at h2; simp at h2
  · refine .inr (.inl ⟨hk, h1, ?_⟩)
    rw [if_neg (by omega), if_pos hk] at h2
    rw [if_neg (by omega), if_pos hk]
    unfold revK at h2
    cases hf : S.l.find? (atW c.w) with
    | none => rw [hf] at h2; simp at h2
    | some m =>
      rw [hf] at h2
      cases ho : on m with
      | false => simp [ho] at h2
      | true =>
        refine ⟨m, hf, by unfold on at ho; simpa using ho, ?_⟩
        rw [revL_on hf ho]
  · refine .inr (.inr ⟨hk, h1, ?_⟩)
    rw [if_neg (by omega), if_neg (by omega)] at h2
    rw [if_neg (by omega), if_neg (by omega), if_pos h2]
    refine ⟨?_, h2, rfl⟩
    unfold begK at h2
    by_cases h19 : 19 ≤ S.e
    · rw [if_pos h19] at h2; simp at h2
    · omega
theorem apply_ok {S : Sm} {c : Cg} (hs : MOk S) (h : (applyM S c).2 = 0) : MOk (applyM S c).1 ∧ (applyM S c).1.l.length ≤ S.l.length + 1 ∧ S.e ≤ (applyM S c).1.e ∧ (applyM S c).1.e ≤ S.e + 1 ∧ Keeps S.l (applyM S c).1.l := by
  obtain ⟨he, hr⟩ := hs
  rcases apply_cases h with ⟨hk, h1, h2, h3⟩ | ⟨hk, h1, m, h2, h4, h3⟩ | ⟨hk, h1, h2, h4, h3⟩ <;> rw [h3]
  · refine ⟨⟨he, insL_srt hr h2⟩, ?_, Int.le_refl _, by simp; omega, fun m hm => ⟨m, (insL_mem _ _ _).2 (.inr hm), rfl, rfl, rfl, fun _ => rfl⟩⟩
    simp [insL_length]
  · refine ⟨⟨he, setW_srt hr (fun m => goneM_w _ _ _)⟩, ?_, Int.le_refl _, by simp; omega, fun x hx => ?_⟩
    · simp [setW_length]
    · have h5 := setW_keeps (g := fun m => goneM m S.e c.l) (who := c.w) hr hx
      by_cases hxw : x.w = c.w
      · rw [if_pos hxw] at h5
        have h6 := findM_of hr hx
        rw [hxw, h2] at h6
        cases h6
        exact ⟨_, h5, rfl, rfl, rfl, fun hn => absurd h4 hn⟩
      · rw [if_neg hxw] at h5
        exact ⟨x, h5, rfl, rfl, rfl, fun _ => rfl⟩
  · unfold EOk at he
    exact ⟨⟨by unfold EOk; simp; omega, hr⟩, by simp, by simp; omega, Int.le_refl _, Keeps.refl _⟩
theorem Keeps.find {l l' : List Mb} (h : Keeps l l') (hs : Srt l') {m : Mb} (hm : m ∈ l) : ∃ m', findM l' m.w = some m' ∧ m'.w = m.w ∧ m'.p = m.p ∧ m'.f = m.f ∧ (m.t ≠ -1 → m' = m) := by
  obtain ⟨m', h1, h2, h3⟩ := h m hm
  exact ⟨m', by rw [← h2]; exact findM_of hs h1, h2, h3⟩
theorem sok_new (p : Int) : MOk ⟨[⟨0, p, 0, -1, 0⟩], -1⟩ := ⟨by unfold EOk; simp, by unfold Srt; simp⟩
/-- Whoever was revoked. -/
def Gone (who lim t : Int) (S : Sm) : Prop := ∃ m, findM S.l who = some m ∧ m.t = t ∧ m.l = lim
theorem Gone.apply {who lim t : Int} {S : Sm} {c : Cg} {f : Int} (ht : t ≠ -1) (hs : MOk S) (hg : ∃ m, findM S.l who = some m ∧ m.t = t ∧ m.l = lim ∧ m.f = f) (h : (applyM S c).2 = 0) : ∃ m, findM (applyM S c).1.l who = some m ∧ m.t = t ∧ m.l = lim ∧ m.f = f := by
  obtain ⟨m, h1, h2, h3, h4⟩ := hg
  obtain ⟨h5, h6⟩ := findM_some h1
  obtain ⟨a1, _, _, _, a5⟩ := apply_ok hs h
  obtain ⟨m', b1, b2, b3, b4, b5⟩ := a5.find a1.srt h5
  have := b5 (by rw [h2]; exact ht)
  subst this
  rw [h6] at b1
  exact ⟨m', b1, h2, h3, h4⟩
/-- What a revocation leaves. -/
theorem gone_first {S : Sm} {who lim : Int} (hs : MOk S) (h : (applyM S ⟨2, who, 0, lim, [], []⟩).2 = 0) : who ≠ 0 ∧ ∃ m0, findM S.l who = some m0 ∧ m0.t = -1 ∧ (applyM S ⟨2, who, 0, lim, [], []⟩).1.e = S.e ∧ ∃ m, findM (applyM S ⟨2, who, 0, lim, [], []⟩).1.l who = some m ∧ m.t = (if S.e = -1 then -2 else S.e) ∧ m.l = lim ∧ m.f = m0.f := by
  rcases apply_cases h with ⟨hk, _⟩ | ⟨hk, h1, m, h2, h4, h3⟩ | ⟨hk, _⟩
  · simp at hk
  · refine ⟨?_, m, h2, h4, by rw [h3], goneM m S.e lim, by rw [h3]; exact setW_find (g := fun m => goneM m S.e lim) (fun m => goneM_w _ _ _) h2, rfl, rfl, rfl⟩
    unfold rightB at h1
    simp at h1
    exact h1.1.1.2
  · simp at hk
theorem gone_may {S T : Sm} {who lim i e : Int} {m0 m : Mb} (hw : who ≠ 0) (h1 : findM S.l who = some m0) (h2 : m0.t = -1) (he : -1 ≤ S.e) (hT : S.e ≤ T.e) (h3 : findM T.l who = some m) (h4 : m.t = (if S.e = -1 then -2 else S.e)) (h5 : m.l = lim) (h6 : m.f = m0.f) :
    ((S.e < e ∨ lim ≤ i) → -1 ≤ e → mayM T who i e ≠ 0) ∧ (i < lim → 0 ≤ e → e ≤ S.e → mayM T who i e = mayM S who i e) := by
  unfold mayM
  rw [h1, h3]
  simp only
  constructor
  · intro h h0
    by_cases he1 : e = -1
    · rw [if_pos he1, if_neg hw]; simp
    · rw [if_neg he1]
      by_cases hTe : T.e < e
      · rw [if_pos hTe]; simp
      · rw [if_neg hTe]
        have : countsM m i e = false := by
          unfold countsM
          rw [decide_eq_false_iff_not]
          rintro ⟨g1, g2 | g2⟩
          · rw [h4] at g2; split at g2 <;> omega
          · rw [h4, h5] at g2; split at g2 <;> omega
        rw [this]; simp
  · intro g1 g2 g3
    have h7 : m.t = S.e := by rw [h4, if_neg (by omega)]
    rw [if_neg (show ¬ e = -1 by omega), if_neg (show ¬ e = -1 by omega), if_neg (show ¬ T.e < e by omega), if_neg (show ¬ S.e < e by omega)] <;> skip
    have : countsM m i e = countsM m0 i e := by
      unfold countsM
      rw [decide_eq_decide, h6, h5, h7, h2]
      constructor
      · rintro ⟨q1, q2⟩; exact ⟨q1, .inl rfl⟩
      · rintro ⟨q1, q2⟩; exact ⟨q1, .inr ⟨by omega, by omega⟩⟩
    rw [this]
end Go.Proofs.Ytgoghmabhdkdjaa
