/-
  A change as the program's, and as the document's; a state as the document's.
  A state as the document's.
  Lists of changes as they came in; whether they are light; whether states are the same.
  States that are the same.
  A variable that holds a state; what is asked of the chapter's example.
  What Apply does, by lists: members stay in order, and by who they are; whoever was revoked stays so.
  The document's New, Find, May, who.
  The document's Now, and a state with a member.
-/
import Derived.Test.YtjbpfhnagiacmaaGreatApp
import Derived.Laws.StructEq
namespace Go.Proofs.YtjbpfhnagiacmaaGreat
section
set_option linter.unusedVariables false
set_option linter.unusedSimpArgs false
set_option synthInstance.maxSize 20000
set_option maxHeartbeats 2000000
set_option maxRecDepth 20000
open Go.RowKit Go.Maps
abbrev Cq := Cg × Value × Value
def cqf (q : Cq) : List Value := cc q.1 q.2.1 q.2.2
structure ChsAt (w : World) (v : Value) (cs : List Cq) : Prop where
  row : RowF cqf w v cs
  each : ∀ q ∈ cs, ∃ qs, CgAt w q.1 q.2.1 q.2.2 qs
theorem ChsAt.below {w w' : World} {v : Value} {cs : List Cq} (h : ChsAt w v cs) (hb : Below w.heap.size w w') : ChsAt w' v cs := ⟨h.row.below hb, fun q hq => by
  obtain ⟨qs, h1⟩ := h.each q hq
  exact ⟨qs, h1.below hb⟩⟩
end
section
set_option linter.unusedVariables false
set_option linter.unusedSimpArgs false
set_option synthInstance.maxSize 20000
set_option maxHeartbeats 2000000
set_option maxRecDepth 20000
open Go.RowKit Go.Maps
theorem rowM_set {w : World} {v : Value} {l : List Mb} {b : Nat} {t : TypeId} {vs : List Value} (h : RowF mc w v l) (hb : Blk w b t vs) (hn : ∀ (i : Nat) (p : Int), vs[i]? ≠ some (Value.int .u64 p)) (i : Nat) (u : Value) : RowF mc (w.setCell ⟨b, i, none⟩ u) v l := by
  by_cases hp : 0 < l.length
  · refine h.blocks fun j hj _ => ?_
    obtain ⟨a, cap, rfl, h1, h2, h3, h4⟩ := h
    obtain ⟨b', off, rfl, hc⟩ := h4 hp
    cases hj
    have hne : b' ≠ b := fun e => by
      subst e
      obtain ⟨m, hm⟩ : ∃ m, l[0]? = some m := ⟨_, List.getElem?_eq_getElem hp⟩
      have h5 := hc (0 * 5 + 1) (.int .u64 m.p) (flat_at mc_len hm 1 _ rfl)
      have h6 : (0 * 5 + 1 : Nat) = 1 := rfl
      rw [h6] at h5
      have h7 := hb
      unfold Blk at h7
      rw [World.cell?] at h5
      simp [h7] at h5
      exact hn (off + 1) m.p h5
    exact Below.heap_setCell _ _ _ _ hne
  · have : l = [] := List.eq_nil_of_length_eq_zero (by omega)
    subst this
    obtain ⟨a, cap, rfl, h1, h2, h3, h4⟩ := h
    exact ⟨a, cap, rfl, h1, h2, h3, fun h => by simp at h⟩
structure VarAt (w : World) (b : Nat) (t : TypeId) (lv : Value) (S : Sm) : Prop where
  blk : Blk w b t [lv, .int .i64 S.e]
  row : RowF mc w lv S.l
theorem VarAt.below {w w' : World} {b : Nat} {t : TypeId} {lv : Value} {S : Sm} (h : VarAt w b t lv S) (hb : Below w.heap.size w w') : VarAt w' b t lv S := ⟨h.blk.below hb, h.row.below hb⟩
theorem VarAt.clear {w : World} {b : Nat} {t : TypeId} {lv : Value} {S : Sm} (h : VarAt w b t lv S) : ∀ (i : Nat) (p : Int), [lv, Value.int .i64 S.e][i]? ≠ some (Value.int .u64 p) := fun i p => by
  obtain ⟨a, c, rfl⟩ := h.row.len
  match i with
  | 0 => simp
  | 1 => simp
  | i + 2 => simp
def putS (w : World) (b : Nat) (v : Value) (e : Int) : World := (w.setCell ⟨b, 0, none⟩ v).setCell ⟨b, 1, none⟩ (.int .i64 e)
theorem putS_row {w : World} {b : Nat} {t : TypeId} {lv v u : Value} {S : Sm} {l l' : List Mb} {e : Int} (h : VarAt w b t lv S) (hv : RowF mc w v l) (hu : RowF mc w u l') : RowF mc (putS w b v e) u l' := by
  have h1 := rowM_set hu h.blk h.clear 0 v
  have h2 : Blk (w.setCell ⟨b, 0, none⟩ v) b t [v, .int .i64 S.e] := h.blk.set 0 v
  refine rowM_set h1 h2 (fun i p => ?_) 1 _
  obtain ⟨a, c, rfl⟩ := hv.len
  match i with
  | 0 => simp
  | 1 => simp
  | i + 2 => simp
theorem putS_below {w0 w : World} {b : Nat} {v : Value} {e : Int} (h : Below w0.heap.size w0 w) (hb : w0.heap.size ≤ b) : Below w0.heap.size w0 (putS w b v e) := (h.setCell hb _).setCell hb _
theorem putS_size (w : World) (b : Nat) (v : Value) (e : Int) : (putS w b v e).heap.size = w.heap.size := by unfold putS; simp
structure ApV (W w : World) (tb : Nat) (v : Value) (S : Sm) : Prop where
  var : VarAt w tb 67 v S
  tb : W.heap.size ≤ tb
  bel : Below W.heap.size W w
def put5 (w : World) (b : Nat) (v0 v1 v2 v3 v4 : Value) : World := ((((w.setCell ⟨b, 0, none⟩ v0).setCell ⟨b, 1, none⟩ v1).setCell ⟨b, 2, none⟩ v2).setCell ⟨b, 3, none⟩ v3).setCell ⟨b, 4, none⟩ v4
theorem put5_below {w0 w : World} {b : Nat} {v0 v1 v2 v3 v4 : Value} (h : Below w0.heap.size w0 w) (hb : w0.heap.size ≤ b) : Below w0.heap.size w0 (put5 w b v0 v1 v2 v3 v4) := ((((h.setCell hb _).setCell hb _).setCell hb _).setCell hb _).setCell hb _
def m0 : Mb := ⟨0, 5, 0, -1, 0⟩
def m1 : Mb := ⟨1, 6, 1, -1, 0⟩
def c0 : Cg := ⟨3, 0, 0, 0, [⟨0, List.replicate 16 0⟩], []⟩
def c1 : Cg := ⟨1, 1, 6, 0, [], []⟩
end
section
set_option linter.unusedVariables false
set_option linter.unusedSimpArgs false
set_option synthInstance.maxSize 20000
set_option maxHeartbeats 2000000
set_option maxRecDepth 20000
open Go.RowKit Go.Maps
def Srt (l : List Mb) : Prop := l.Pairwise (fun a b => a.w < b.w)
theorem atW_iff {who : Int} {m : Mb} : atW who m = true ↔ m.w = who := by unfold atW; simp
theorem findM_cons (x : Mb) (r : List Mb) (who : Int) : findM (x :: r) who = if x.w = who then some x else findM r who := by
  unfold findM
  rw [List.find?_cons]
  by_cases h : x.w = who
  · rw [if_pos h, atW_iff.2 h]
  · rw [if_neg h]
    have : atW who x = false := by unfold atW; simp [h]
    rw [this]
theorem findM_nil (who : Int) : findM [] who = none := rfl
theorem findM_some {l : List Mb} {who : Int} {m : Mb} (h : findM l who = some m) : m ∈ l ∧ m.w = who := ⟨List.mem_of_find?_eq_some h, atW_iff.1 (List.find?_some h)⟩
theorem findM_none {l : List Mb} {who : Int} (h : findM l who = none) : ∀ m ∈ l, m.w ≠ who := fun m hm e => by
  have := List.find?_eq_none.1 h m hm
  exact this (atW_iff.2 e)
theorem findM_of {l : List Mb} (hs : Srt l) {m : Mb} (hm : m ∈ l) : findM l m.w = some m := by
  induction l with
  | nil => cases hm
  | cons x r ih =>
    rw [findM_cons]
    have h1 := List.pairwise_cons.1 hs
    rcases List.mem_cons.1 hm with rfl | hm
    · rw [if_pos rfl]
    · have := h1.1 m hm
      rw [if_neg (by omega)]
      exact ih h1.2 hm
theorem roomM_cons (who : Int) (x : Mb) (r : List Mb) : roomM who (x :: r) = if who < x.w then 0 else roomM who r + 1 := by
  unfold roomM
  rw [List.findIdx?_cons]
  by_cases h : who < x.w
  · rw [if_pos h]
    have : overW who x = true := by unfold overW; simp [h]
    simp [this]
  · rw [if_neg h]
    have : overW who x = false := by unfold overW; simp; omega
    rw [this]
    cases hh : r.findIdx? (overW who) <;> simp
theorem insL_nil (m : Mb) : insL [] m = [m] := rfl
theorem insL_cons (x : Mb) (r : List Mb) (m : Mb) : insL (x :: r) m = if m.w < x.w then m :: x :: r else x :: insL r m := by
  unfold insL
  rw [roomM_cons]
  by_cases h : m.w < x.w
  · simp [h]
  · simp [h]
theorem insL_mem (l : List Mb) (m y : Mb) : y ∈ insL l m ↔ y = m ∨ y ∈ l := by
  unfold insL
  rw [List.mem_append, List.mem_cons]
  have h := List.take_append_drop (roomM m.w l) l
  constructor
  · rintro (h1 | h1 | h1)
    · exact .inr (List.mem_of_mem_take h1)
    · exact .inl h1
    · exact .inr (List.mem_of_mem_drop h1)
  · rintro (h1 | h1)
    · exact .inr (.inl h1)
    · rw [← h, List.mem_append] at h1
      rcases h1 with h1 | h1
      · exact .inl h1
      · exact .inr (.inr h1)
theorem insL_srt {l : List Mb} {m : Mb} (hs : Srt l) (hn : findM l m.w = none) : Srt (insL l m) := by
  induction l with
  | nil => rw [insL_nil]; unfold Srt; simp
  | cons x r ih =>
    have h1 := List.pairwise_cons.1 hs
    have hx := findM_none hn x (by simp)
    have hr : findM r m.w = none := by rw [findM_cons, if_neg hx] at hn; exact hn
    rw [insL_cons]
    split
    · rename_i h2
      refine List.pairwise_cons.2 ⟨fun y hy => ?_, hs⟩
      rcases List.mem_cons.1 hy with rfl | hy
      · exact h2
      · have := h1.1 y hy; omega
    · refine List.pairwise_cons.2 ⟨fun y hy => ?_, ih h1.2 hr⟩
      rcases (insL_mem r m y).1 hy with rfl | hy
      · omega
      · exact h1.1 y hy
theorem insL_length (l : List Mb) (m : Mb) : (insL l m).length = l.length + 1 := mid_len l _ m (roomM_le _ _)
def setW (who : Int) (g : Mb → Mb) : List Mb → List Mb
  | [] => []
  | x :: r => if x.w = who then g x :: r else x :: setW who g r
theorem idxG_cons {α : Type} (p : α → Bool) (x : α) (r : List α) : idxG p (x :: r) = if p x = true then 0 else if idxG p r < 0 then -1 else idxG p r + 1 := by
  unfold idxG
  rw [List.findIdx?_cons]
  by_cases h : p x = true
  · simp [h]
  · simp [h]
    cases hh : r.findIdx? p <;> simp
    omega
theorem idxG_nonneg {l : List Mb} {who : Int} {m : Mb} (h : findM l who = some m) : 0 ≤ idxG (atW who) l := by
  rcases idxG_find (l := l) (p := atW who) with ⟨h1, _⟩ | ⟨i, m', h1, h2, _⟩
  · unfold findM at h; rw [h1] at h; cases h
  · rw [h2]; omega
theorem set_idx {l : List Mb} {who : Int} {m : Mb} (g : Mb → Mb) (h : findM l who = some m) : l.set (idxG (atW who) l).toNat (g m) = setW who g l := by
  induction l with
  | nil => cases h
  | cons x r ih =>
    rw [findM_cons] at h
    rw [idxG_cons, setW]
    by_cases hx : x.w = who
    · rw [if_pos hx] at h
      cases h
      rw [if_pos hx, if_pos (atW_iff.2 hx)]
      rfl
    · rw [if_neg hx] at h
      have h0 := idxG_nonneg h
      rw [if_neg hx, if_neg (fun e => hx (atW_iff.1 e)), if_neg (by omega)]
      have : (idxG (atW who) r + 1).toNat = (idxG (atW who) r).toNat + 1 := by omega
      rw [this, List.set_cons_succ, ih h]
theorem setW_length (who : Int) (g : Mb → Mb) (l : List Mb) : (setW who g l).length = l.length := by
  induction l with
  | nil => rfl
  | cons x r ih => rw [setW]; split <;> simp [ih]
theorem setW_mem {l : List Mb} {who : Int} {g : Mb → Mb} {y : Mb} (h : y ∈ setW who g l) : y ∈ l ∨ ∃ x ∈ l, x.w = who ∧ y = g x := by
  induction l with
  | nil => cases h
  | cons x r ih =>
    rw [setW] at h
    split at h
    · rename_i hx
      rcases List.mem_cons.1 h with rfl | h
      · exact .inr ⟨x, by simp, hx, rfl⟩
      · exact .inl (by simp [h])
    · rcases List.mem_cons.1 h with rfl | h
      · exact .inl (by simp)
      · rcases ih h with h | ⟨z, hz, h1, h2⟩
        · exact .inl (by simp [h])
        · exact .inr ⟨z, by simp [hz], h1, h2⟩
theorem setW_keeps {l : List Mb} (hs : Srt l) {who : Int} {g : Mb → Mb} {m : Mb} (hm : m ∈ l) : if m.w = who then g m ∈ setW who g l else m ∈ setW who g l := by
  induction l with
  | nil => cases hm
  | cons x r ih =>
    have h1 := List.pairwise_cons.1 hs
    rw [setW]
    rcases List.mem_cons.1 hm with rfl | hm
    · split <;> simp
    · have h2 := ih h1.2 hm
      have h3 := h1.1 m hm
      by_cases hx : x.w = who
      · rw [if_pos hx, if_neg (by omega)]
        simp [hm]
      · rw [if_neg hx]
        by_cases hmw : m.w = who
        · rw [if_pos hmw] at h2 ⊢; simp [h2]
        · rw [if_neg hmw] at h2 ⊢; simp [h2]
theorem setW_srt {l : List Mb} (hs : Srt l) {who : Int} {g : Mb → Mb} (hg : ∀ m, (g m).w = m.w) : Srt (setW who g l) := by
  induction l with
  | nil => exact hs
  | cons x r ih =>
    have h1 := List.pairwise_cons.1 hs
    rw [setW]
    split
    · exact List.pairwise_cons.2 ⟨fun y hy => by rw [hg]; exact h1.1 y hy, h1.2⟩
    · refine List.pairwise_cons.2 ⟨fun y hy => ?_, ih h1.2⟩
      rcases setW_mem hy with h | ⟨z, hz, _, rfl⟩
      · exact h1.1 y h
      · rw [hg]; exact h1.1 z hz
def Keeps (l l' : List Mb) : Prop := ∀ m ∈ l, ∃ m' ∈ l', m'.w = m.w ∧ m'.p = m.p ∧ m'.f = m.f ∧ (m.t ≠ -1 → m' = m)
theorem Keeps.refl (l : List Mb) : Keeps l l := fun m hm => ⟨m, hm, rfl, rfl, rfl, fun _ => rfl⟩
structure MOk (S : Sm) : Prop where
  e : EOk S.e
  srt : Srt S.l
theorem goneM_w (m : Mb) (e lim : Int) : (goneM m e lim).w = m.w := rfl
theorem revL_on {l : List Mb} {e : Int} {c : Cg} {m : Mb} (h : findM l c.w = some m) (ho : on m = true) : revL l e c = setW c.w (fun m => goneM m e c.l) l := by
  unfold revL
  have h' : l.find? (atW c.w) = some m := h
  rw [h']
  simp only [ho, if_true]
  exact set_idx (fun m => goneM m e c.l) h
theorem apply_kind {S : Sm} {c : Cg} (h : (applyM S c).2 = 0) : rightB c = true ∧ turnK S c = 0 ∧ (applyM S c).1 = turnS S c := by
  unfold applyM at h ⊢
  by_cases hr : rightB c = true
  · rw [if_pos hr] at h ⊢
    by_cases ht : turnK S c = 0
    · rw [if_pos ht] at h ⊢
      exact ⟨hr, ht, rfl⟩
    · rw [if_neg ht] at h
      exact absurd h ht
  · rw [if_neg hr] at h
    simp at h
theorem apply_cases {S : Sm} {c : Cg} (h : (applyM S c).2 = 0) :
    (c.k = 1 ∧ rightB c = true ∧ findM S.l c.w = none ∧ (applyM S c).1 = ⟨insL S.l (newM S.e c), S.e⟩) ∨
    (c.k = 2 ∧ rightB c = true ∧ ∃ m, findM S.l c.w = some m ∧ m.t = -1 ∧ (applyM S c).1 = ⟨setW c.w (fun m => goneM m S.e c.l) S.l, S.e⟩) ∨
    (c.k = 3 ∧ rightB c = true ∧ S.e < 19 ∧ begK S.l S.e c = 0 ∧ (applyM S c).1 = ⟨S.l, S.e + 1⟩) := by
  obtain ⟨h1, h2, h3⟩ := apply_kind h
  rw [h3]
  unfold turnK at h2
  unfold turnS
  rcases right_kind h1 with hk | hk | hk
  · refine .inl ⟨hk, h1, ?_⟩
    rw [if_pos hk] at h2
    rw [if_pos hk]
    unfold invK at h2
    unfold invL
    cases hf : findM S.l c.w with
    | none => simp
    | some m => rw [hf] at h2; simp at h2
  · refine .inr (.inl ⟨hk, h1, ?_⟩)
    rw [if_neg (by omega), if_pos hk] at h2
    rw [if_neg (by omega), if_pos hk]
    unfold revK at h2
    cases hf : S.l.find? (atW c.w) with
    | none => rw [hf] at h2; simp at h2
    | some m =>
      rw [hf] at h2
      cases ho : on m with
      | false => simp [ho] at h2
      | true =>
        refine ⟨m, hf, by unfold on at ho; simpa using ho, ?_⟩
        rw [revL_on hf ho]
  · refine .inr (.inr ⟨hk, h1, ?_⟩)
    rw [if_neg (by omega), if_neg (by omega)] at h2
    rw [if_neg (by omega), if_neg (by omega), if_pos h2]
    refine ⟨?_, h2, rfl⟩
    unfold begK at h2
    by_cases h19 : 19 ≤ S.e
    · rw [if_pos h19] at h2; simp at h2
    · omega
theorem apply_ok {S : Sm} {c : Cg} (hs : MOk S) (h : (applyM S c).2 = 0) : MOk (applyM S c).1 ∧ (applyM S c).1.l.length ≤ S.l.length + 1 ∧ S.e ≤ (applyM S c).1.e ∧ (applyM S c).1.e ≤ S.e + 1 ∧ Keeps S.l (applyM S c).1.l := by
  obtain ⟨he, hr⟩ := hs
  rcases apply_cases h with ⟨hk, h1, h2, h3⟩ | ⟨hk, h1, m, h2, h4, h3⟩ | ⟨hk, h1, h2, h4, h3⟩ <;> rw [h3]
  · refine ⟨⟨he, insL_srt hr h2⟩, ?_, Int.le_refl _, by simp; omega, fun m hm => ⟨m, (insL_mem _ _ _).2 (.inr hm), rfl, rfl, rfl, fun _ => rfl⟩⟩
    simp [insL_length]
  · refine ⟨⟨he, setW_srt hr (fun m => goneM_w _ _ _)⟩, ?_, Int.le_refl _, by simp; omega, fun x hx => ?_⟩
    · simp [setW_length]
    · have h5 := setW_keeps (g := fun m => goneM m S.e c.l) (who := c.w) hr hx
      by_cases hxw : x.w = c.w
      · rw [if_pos hxw] at h5
        have h6 := findM_of hr hx
        rw [hxw, h2] at h6
        cases h6
        exact ⟨_, h5, rfl, rfl, rfl, fun hn => absurd h4 hn⟩
      · rw [if_neg hxw] at h5
        exact ⟨x, h5, rfl, rfl, rfl, fun _ => rfl⟩
  · unfold EOk at he
    exact ⟨⟨by unfold EOk; simp; omega, hr⟩, by simp, by simp; omega, Int.le_refl _, Keeps.refl _⟩
theorem Keeps.find {l l' : List Mb} (h : Keeps l l') (hs : Srt l') {m : Mb} (hm : m ∈ l) : ∃ m', findM l' m.w = some m' ∧ m'.w = m.w ∧ m'.p = m.p ∧ m'.f = m.f ∧ (m.t ≠ -1 → m' = m) := by
  obtain ⟨m', h1, h2, h3⟩ := h m hm
  exact ⟨m', by rw [← h2]; exact findM_of hs h1, h2, h3⟩
def Gone (who lim t : Int) (S : Sm) : Prop := ∃ m, findM S.l who = some m ∧ m.t = t ∧ m.l = lim
theorem Gone.apply {who lim t : Int} {S : Sm} {c : Cg} {f : Int} (ht : t ≠ -1) (hs : MOk S) (hg : ∃ m, findM S.l who = some m ∧ m.t = t ∧ m.l = lim ∧ m.f = f) (h : (applyM S c).2 = 0) : ∃ m, findM (applyM S c).1.l who = some m ∧ m.t = t ∧ m.l = lim ∧ m.f = f := by
  obtain ⟨m, h1, h2, h3, h4⟩ := hg
  obtain ⟨h5, h6⟩ := findM_some h1
  obtain ⟨a1, _, _, _, a5⟩ := apply_ok hs h
  obtain ⟨m', b1, b2, b3, b4, b5⟩ := a5.find a1.srt h5
  have := b5 (by rw [h2]; exact ht)
  subst this
  rw [h6] at b1
  exact ⟨m', b1, h2, h3, h4⟩
end
section
set_option linter.unusedVariables false
set_option linter.unusedSimpArgs false
set_option synthInstance.maxSize 20000
set_option maxHeartbeats 2000000
set_option maxRecDepth 20000
open Go.RowKit Go.Maps
theorem findM_hit {l : List Mb} {k : Nat} {x : Mb} {who : Int} (h : findM (l.take k) who = none) (hx : l[k]? = some x) (hw : x.w = who) : findM l who = some x := by
  have hk := List.getElem?_eq_some_iff.1 hx
  have e : l = l.take k ++ x :: l.drop (k + 1) := by
    have h1 := (List.take_append_drop k l).symm
    rw [List.drop_eq_getElem_cons hk.1, hk.2] at h1
    exact h1
  unfold findM at h ⊢
  rw [e, List.find?_append, h]
  simp [atW_iff.2 hw]
theorem findM_miss {l : List Mb} {k : Nat} {x : Mb} {who : Int} (h : findM (l.take k) who = none) (hx : l[k]? = some x) (hw : x.w ≠ who) : findM (l.take (k + 1)) who = none := by
  have hk := List.getElem?_eq_some_iff.1 hx
  unfold findM at h ⊢
  rw [List.take_succ_eq_append_getElem hk.1, List.find?_append, h, hk.2]
  have : atW who x = false := by unfold atW; simp [hw]
  simp [this]
theorem rfind18 {w : World} {v : Value} {l : List Mb} (hv : RowF mc w v l) (who e : Int) : Calls Tryz.prog 68 #[stv v e, .int .i64 who] w fun r w' => r = .returned (.tuple #[mv ((findM l who).getD zm), .bool (findM l who).isSome]) ∧ Below w.heap.size w w' := by
  obtain ⟨av, cap, rfl⟩ := hv.len
  have hcap := hv.caps
  have hc1 : l.length ≤ cap := hcap.2.1
  have hc2 : cap ≤ 9223372036854775807 := hcap.2.2
  obtain ⟨n, hn⟩ : ∃ n, n = l.length := ⟨_, rfl⟩
  have HN : Hid (n = l.length) := hn
  rw [← hn] at hc1 hv ⊢
  obtain ⟨w1, hw1⟩ : ∃ w1, w1 = (w.alloc (.cells #[.slice av n cap, .int .i64 e] 71)).alloc (.cells #[.int .i64 0, .int .u64 0, .int .i64 0, .int .i64 0, .int .i64 0] 117) := ⟨_, rfl⟩
  have hb1 : Below w.heap.size w w1 := by rw [hw1]; exact balloc2 _ _ _
  have HB1 : Hid (Below w.heap.size w w1) := hb1
  have X0 : Blk w1 w.heap.size 71 [.slice av n cap, .int .i64 e] := by rw [hw1]; exact blkM_0 w [.slice av n cap, .int .i64 e] [.int .i64 0, .int .u64 0, .int .i64 0, .int .i64 0, .int .i64 0] 71 117
  have X1 : Blk w1 (w.heap.size + 1) 117 [.int .i64 0, .int .u64 0, .int .i64 0, .int .i64 0, .int .i64 0] := by rw [hw1]; exact blkM_1 w [.slice av n cap, .int .i64 e] [.int .i64 0, .int .u64 0, .int .i64 0, .int .i64 0, .int .i64 0] 71 117
  have HV : Hid (RowF mc w1 (.slice av n cap) l) := (show RowF _ _ _ _ from hv.below hb1)
  have HW1 : Hid (w1 = (w.alloc (.cells #[.slice av n cap, .int .i64 e] 71)).alloc (.cells #[.int .i64 0, .int .u64 0, .int .i64 0, .int .i64 0, .int .i64 0] 117)) := hw1
  have x0 := X0.cell 0 _ rfl
  have j0 := X1.cell 0 _ rfl; have j1 := X1.cell 1 _ rfl; have j2 := X1.cell 2 _ rfl; have j3 := X1.cell 3 _ rfl; have j4 := X1.cell 4 _ rfl
  have i0 := X1.frozen 0; have i1 := X1.frozen 1; have i2 := X1.frozen 2; have i3 := X1.frozen 3; have i4 := X1.frozen 4
  have HPb : Hid (∀ v0 v1 v2 v3 v4, Below w.heap.size w (put5 w1 (w.heap.size + 1) v0 v1 v2 v3 v4)) := fun v0 v1 v2 v3 v4 => put5_below hb1 (by omega)
  clear hv hcap hn hw1 hb1 X0 X1
  unfold stv
  go_enter Tryz.func68, Tryz.ntmps68
  go_upto_region 1 with fail
  rw [← HW1.out]
  go_wp2
  go_loopw [6] (fun i wr => ∃ k : Nat, i = .int .i64 k ∧ k ≤ n ∧ Hid (w1 = wr ∧ findM (l.take k) who = none)) (fun i _ => n - (intOf i).toNat)
  case atStart => exact ⟨0, rfl, by omega, rfl, rfl⟩
  case round =>
    obtain ⟨k, rfl, hk, HI⟩ := hrel
    have hww := HI.out.1
    have HF : Hid (findM (l.take k) who = none) := HI.out.2
    subst hww
    clear HI
    by_cases hki : k < n
    · obtain ⟨x, hx⟩ : ∃ x, l[k]? = some x := ⟨_, List.getElem?_eq_getElem (by have := HN.out; omega)⟩
      obtain ⟨b, off, ea, hc⟩ := HV.out.at mc_len hx
      subst ea
      have c0 := hc 0 _ rfl; have c1 := hc 1 _ rfl; have c2 := hc 2 _ rfl; have c3 := hc 3 _ rfl; have c4 := hc 4 _ rfl
      simp only [Nat.add_zero] at c0
      by_cases hxw : x.w = who
      · have HR : Hid (findM l who = some x) := findM_hit HF.out hx hxw
        obtain ⟨y0, y1, y2, y3, y4⟩ := x
        dsimp only at hxw c0 c1 c2 c3 c4
        subst hxw
        clear hc hx HF
        go_wp2
        refine bodyPost_ret (v := .tuple #[mv ⟨y0, y1, y2, y3, y4⟩, .bool true]) ?_ rfl ⟨by rw [HR.out]; rfl, HPb.out _ _ _ _ _⟩
        rw [results_cell_tmp rfl]
        unfold mv
        go_simp
      · have HR : Hid (True ∧ findM (l.take (k + 1)) who = none) := ⟨trivial, findM_miss HF.out hx hxw⟩
        obtain ⟨y0, y1, y2, y3, y4⟩ := x
        dsimp only at hxw c0 c1 c2 c3 c4
        clear hc hx
        go_wp2
        go_roundw
        case rel => exact ⟨k + 1, by go_num, by omega, HR⟩
        case measure => simp [intOf]; omega
    · have HR : Hid (findM l who = none) := (show _ = _ by
        have := HF.out
        rwa [List.take_of_length_le (by have := HN.out; omega)] at this)
      go_wp2
      refine bodyPost_ret (v := .tuple #[mv zm, .bool false]) ?_ rfl ⟨by rw [HR.out]; rfl, HPb.out _ _ _ _ _⟩
      rw [results_cell_tmp rfl]
      unfold mv zm
      go_simp
def FOk (S : Sm) : Prop := ∀ m ∈ S.l, 0 ≤ m.f
theorem FOk.apply {S : Sm} {c : Cg} (hs : MOk S) (hf : FOk S) (h : (applyM S c).2 = 0) : FOk (applyM S c).1 := by
  rcases apply_cases h with ⟨hk, h1, h2, h3⟩ | ⟨hk, h1, m, h2, h4, h3⟩ | ⟨hk, h1, h2, h4, h3⟩ <;> rw [h3]
  · intro y hy
    rcases (insL_mem _ _ _).1 hy with rfl | hy
    · have := hs.e
      unfold EOk at this
      simp [newM]
      omega
    · exact hf y hy
  · intro y hy
    rcases setW_mem hy with hy | ⟨x, hx, _, rfl⟩
    · exact hf y hy
    · exact hf x hx
  · exact hf
theorem rwho58 (n : Int) (w : World) : Calls Tryz.prog 108 #[.int .i64 n] w fun r w' => r = .returned (.bool (whoB n)) ∧ w' = w := by
  have hw : whoB n = decide (0 ≤ n ∧ n ≤ 7) := rfl
  by_cases h1 : 0 ≤ n
  · by_cases h2 : n < 8
    · have : whoB n = true := by rw [hw]; exact decide_eq_true (by omega)
      rw [this]
      go_enter Tryz.func108, Tryz.ntmps108
      go_wp2
      go_ret
      exact ⟨rfl, rfl⟩
    · have : whoB n = false := by rw [hw]; exact decide_eq_false (by omega)
      rw [this]
      go_enter Tryz.func108, Tryz.ntmps108
      go_wp2
      go_ret
      exact ⟨rfl, rfl⟩
  · have : whoB n = false := by rw [hw]; exact decide_eq_false (by omega)
    rw [this]
    go_enter Tryz.func108, Tryz.ntmps108
    go_wp2
    go_ret
    exact ⟨rfl, rfl⟩
end
section
set_option linter.unusedVariables false
set_option linter.unusedSimpArgs false
set_option synthInstance.maxSize 20000
set_option maxHeartbeats 2000000
set_option maxRecDepth 20000
open Go.RowKit Go.Maps
theorem rnow20 {w : World} {v : Value} {l : List Mb} (hv : RowF mc w v l) (hl : l.length ≤ 10000) (e : Int) : Calls Tryz.prog 58 #[stv v e] w fun r w' => ∃ v', r = .returned v' ∧ RowF mc w' v' (nowM l) ∧ Below w.heap.size w w' := by
  obtain ⟨av, cap, rfl⟩ := hv.len
  have hcap := hv.caps
  have hc1 : l.length ≤ cap := hcap.2.1
  have hc2 : cap ≤ 9223372036854775807 := hcap.2.2
  obtain ⟨n, hn⟩ : ∃ n, n = l.length := ⟨_, rfl⟩
  have HN : Hid (n = l.length) := hn
  rw [← hn] at hc1 hv hl ⊢
  obtain ⟨w1, hw1⟩ : ∃ w1, w1 = w.alloc (.cells #[.slice av n cap, .int .i64 e] 71) := ⟨_, rfl⟩
  have hb1 : Below w.heap.size w w1 := by rw [hw1]; exact balloc (Below.refl _ _) _
  have HB1 : Hid (Below w.heap.size w w1) := hb1
  have X0 : Hid (Blk w1 w.heap.size 71 [.slice av n cap, .int .i64 e]) := by rw [hw1]; exact blk_new w [.slice av n cap, .int .i64 e] 71
  have HV : Hid (∀ w', Below w1.heap.size w1 w' → RowF mc w' (.slice av n cap) l) := fun w' hb => (hv.below hb1).below hb
  have HW1 : Hid (w1 = w.alloc (.cells #[.slice av n cap, .int .i64 e] 71)) := hw1
  clear hv hcap hn hw1 hb1
  unfold stv
  go_enter Tryz.func58, Tryz.ntmps58
  go_upto_region 1 with fail
  rw [← HW1.out]
  go_wp2
  go_loopw [3, 4] (fun vo i wr => ∃ (k : Nat), i = .int .i64 k ∧ k ≤ n ∧ Hid (Below w1.heap.size w1 wr) ∧ Hid (wr.ownsRow 0 117 5 vo (nowM (l.take k)).length (flat mc (nowM (l.take k)))) ∧ Hid (∀ j, vo.ownBlock = some j → w1.heap.size ≤ j)) (fun _ i _ => n - (intOf i).toNat)
  case atStart => exact ⟨0, rfl, by omega, (show Below _ _ _ from Below.refl _ _), World.ownsRow_nil _ _ _ _, (fun j hj => by cases hj)⟩
  case round =>
    obtain ⟨k, rfl, hk, HB, HO, HNw⟩ := hrel
    have x0 := (X0.out.below HB.out).cell 0 _ rfl
    by_cases hki : k < n
    · obtain ⟨av2, cp2, hvo, hcp⟩ := slice_of_own HO.out
      subst hvo
      obtain ⟨m, hm⟩ : ∃ m, l[k]? = some m := ⟨_, List.getElem?_eq_getElem (by have := HN.out; omega)⟩
      have HM : Hid (nowM (l.take (k + 1)) = nowM (l.take k) ++ (if on m = true then [m] else [])) := nowM_snoc hm
      have HL : Hid ((nowM (l.take k)).length ≤ n) := (by have := nowM_le l k; rw [← HN.out] at this; exact this)
      obtain ⟨b, off, ea, hc⟩ := (HV.out wr HB.out).at mc_len hm
      subst ea
      have HRow : Hid (∀ w' : World, RowF mc (w'.alloc (.cells (mc m).toArray 117)) (.slice (some ⟨w'.heap.size, 0, none⟩) 1 1) [m]) := fun w' => rowF_one w' m 117
      obtain ⟨x0', x1, x2, x3, x4⟩ := m
      have c0 := hc 0 _ rfl; have c1 := hc 1 _ rfl; have c2 := hc 2 _ rfl; have c3 := hc 3 _ rfl; have c4 := hc 4 _ rfl
      simp only [Nat.add_zero] at c0
      have HRow : Hid (∀ w' : World, RowF mc (w'.alloc (.cells #[.int .i64 x0', .int .u64 x1, .int .i64 x2, .int .i64 x3, .int .i64 x4] 117)) (.slice (some ⟨w'.heap.size, 0, none⟩) 1 1) [(⟨x0', x1, x2, x3, x4⟩ : Mb)]) := HRow
      have HNK : Hid (((nowM (l.take k)) ++ [(⟨x0', x1, x2, x3, x4⟩ : Mb)]).length ≤ 100000) := (show _ ≤ _ by rw [List.length_append]; have := HL.out; simp; omega)
      generalize hnn : nowM (l.take k) = acc at *
      clear hc hm hnn
      by_cases h3 : x3 = -1
      · have HM2 : Hid (nowM (l.take (k + 1)) = acc ++ [(⟨x0', x1, x2, -1, x4⟩ : Mb)]) := (show _ = _ by have := HM.out; simp [on, h3] at this; exact this)
        subst h3
        clear HM
        go_wp2_with (at_builtin; go_must (refine wpList_append_rows ty30 mc_len (by omega) rfl (.tmp 19) (.tmp 25) rfl _ acc rfl (HO.out.alloc _) _ [(⟨x0', x1, x2, -1, x4⟩ : Mb)] rfl (HRow.out wr) (flat_mc_one _) (by have := HNK.out; rw [List.length_append] at this; omega) ?_; intro v3 w3 hr3 hg3 hn3; obtain ⟨a3, q3, hv3, hq3⟩ := slice_of_own hr3; subst hv3))
        go_roundw
        case rel =>
          refine ⟨k + 1, by go_num, by omega, ?_, ?_, ?_⟩
          · exact (balloc HB.out _).grown hg3 (balloc HB.out _).size (fun j hj => HNw.out j hj)
          · rw [HM2.out]
            rw [List.length_append] at hr3 ⊢
            exact hr3
          · intro j hj
            rw [List.length_append] at hn3
            rcases hn3 j hj with r | r
            · exact HNw.out j r
            · have := (balloc HB.out (.cells #[.int .i64 x0', .int .u64 x1, .int .i64 x2, .int .i64 (-1), .int .i64 x4] 117)).size
              omega
        case measure => simp [intOf]; omega
      · have HM2 : Hid (nowM (l.take (k + 1)) = acc) := (show _ = _ by have := HM.out; simp [on, h3] at this; exact this)
        clear HM
        go_wp2
        go_roundw
        case rel =>
          refine ⟨k + 1, by go_num, by omega, HB, ?_, HNw⟩
          rw [HM2.out]
          exact HO
        case measure => simp [intOf]; omega
    · go_wp2
      go_ret
      have e : l.take k = l := List.take_of_length_le (by have := HN.out; omega)
      have := HO.out
      rw [e] at this
      exact ⟨_, rfl, rowF_own mc_len this, bnext HB1.out HB.out⟩
end
end Go.Proofs.YtjbpfhnagiacmaaGreat
