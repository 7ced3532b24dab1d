/-
  What Apply comes to, by the document's own steps.
-/
import Derived.Test.YtgoghmabhdkdjaaRfP
namespace Go.Proofs.Ytgoghmabhdkdjaa
set_option linter.unusedVariables false
set_option linter.unusedSimpArgs false
set_option synthInstance.maxSize 20000
set_option maxHeartbeats 2000000
set_option maxRecDepth 20000
open Go.RowKit Go.Maps

theorem srt_ext : ∀ {a b : List Int}, a.Pairwise (fun x y => x < y) → b.Pairwise (fun x y => x < y) → (∀ x, x ∈ a ↔ x ∈ b) → a = b
  | [], [], _, _, _ => rfl
  | [], y :: b, _, _, h => by have := (h y).2 (by simp); simp at this
  | x :: a, [], _, _, h => by have := (h x).1 (by simp); simp at this
  | x :: a, y :: b, ha, hb, h => by
    have h1 := List.pairwise_cons.1 ha
    have h2 := List.pairwise_cons.1 hb
    have hxy : x = y := by
      rcases List.mem_cons.1 ((h x).1 (by simp)) with e | e
      · exact e
      · rcases List.mem_cons.1 ((h y).2 (by simp)) with e' | e'
        · exact e'.symm
        · have := h2.1 x e
          have := h1.1 y e'
          omega
    subst hxy
    rw [srt_ext h1.2 h2.2 (fun z => by
      constructor
      · intro hz
        rcases List.mem_cons.1 ((h z).1 (by simp [hz])) with e | e
        · have := h1.1 z hz; omega
        · exact e
      · intro hz
        rcases List.mem_cons.1 ((h z).2 (by simp [hz])) with e | e
        · have := h2.1 z hz; omega
        · exact e)]
theorem wsF_srt : ∀ {ws : List Wp} {p : Option Int}, wsF p ws = true → (ws.map (·.w)).Pairwise (fun x y => x < y) ∧ ∀ x ∈ ws, behB p x.w = true
  | [], p, _ => by simp
  | x :: r, p, h => by
    unfold wsF at h
    rw [Bool.and_eq_true] at h
    obtain ⟨h1, h2⟩ := h
    obtain ⟨h3, h4⟩ := wsF_srt h2
    unfold stepB at h1
    rw [Bool.and_eq_true] at h1
    have h5 : ∀ y ∈ r, x.w < y.w := fun y hy => by have := h4 y hy; unfold behB at this; simpa using this
    refine ⟨?_, fun y hy => ?_⟩
    · rw [List.map_cons, List.pairwise_cons]
      refine ⟨fun z hz => ?_, h3⟩
      obtain ⟨y, hy, rfl⟩ := List.mem_map.1 hz
      exact h5 y hy
    · rcases List.mem_cons.1 hy with rfl | hy
      · exact h1.2
      · cases p with
        | none => rfl
        | some v =>
          have h6 := h1.2
          have h7 := h5 y hy
          unfold behB at h6 ⊢
          simp at h6 ⊢
          omega
theorem wrap_eq {ws : List Wp} {now : List Mb} (hw : wsF none ws = true) (hn : Srt now) : wrapM ws now = decide (now.map (·.w) = ws.map (·.w)) := by
  have h1 := (wsF_srt hw).1
  have h2 : (now.map (·.w)).Pairwise (fun x y => x < y) := List.pairwise_map.2 hn
  unfold wrapM
  rw [← Bool.not_or, Bool.eq_iff_iff]
  simp only [Bool.not_eq_true', Bool.or_eq_false_iff, List.any_eq_false, decide_eq_true_eq, Bool.not_eq_true, Bool.not_eq_false']
  constructor
  · rintro ⟨h3, h4⟩
    refine srt_ext h2 h1 (fun x => ?_)
    constructor
    · intro hx
      obtain ⟨m, hm, rfl⟩ := List.mem_map.1 hx
      have := h4 m hm
      obtain ⟨q, hq, e⟩ := List.any_eq_true.1 (by simpa using this)
      unfold sameW at e
      exact List.mem_map.2 ⟨q, hq, by simpa using e⟩
    · intro hx
      obtain ⟨q, hq, rfl⟩ := List.mem_map.1 hx
      have := h3 q hq
      obtain ⟨m, hm, e⟩ := List.any_eq_true.1 (by simpa using this)
      exact List.mem_map.2 ⟨m, hm, atW_iff.1 e⟩
  · intro h
    constructor
    · intro q hq
      have : q.w ∈ now.map (·.w) := by rw [h]; exact List.mem_map.2 ⟨q, hq, rfl⟩
      obtain ⟨m, hm, e⟩ := List.mem_map.1 this
      simp
      exact ⟨m, hm, atW_iff.2 e⟩
    · intro m hm
      have : m.w ∈ ws.map (·.w) := by rw [← h]; exact List.mem_map.2 ⟨m, hm, rfl⟩
      obtain ⟨q, hq, e⟩ := List.mem_map.1 this
      simp
      exact ⟨q, hq, by unfold sameW; simpa using e⟩
theorem setW_const {l : List Mb} {who : Int} {m : Mb} {g : Mb → Mb} (h : findM l who = some m) : setW who g l = setW who (fun _ => g m) l := by
  induction l with
  | nil => rfl
  | cons x r ih =>
    rw [findM_cons] at h
    rw [setW, setW]
    by_cases hx : x.w = who
    · rw [if_pos hx] at h
      cases h
      rw [if_pos hx, if_pos hx]
    · rw [if_neg hx] at h
      rw [if_neg hx, if_neg hx, ih h]
theorem now_srt {l : List Mb} (h : Srt l) : Srt (nowM l) := h.sublist List.filter_sublist
theorem apply_bad {S : Sm} {c : Cg} (h : rightB c = false) : applyM S c = (zsm, 1) := by unfold applyM; rw [h]; rfl
theorem apply_no {S : Sm} {c : Cg} (h : rightB c = true) (ht : turnK S c ≠ 0) : applyM S c = (zsm, turnK S c) := by unfold applyM; rw [if_pos h, if_neg ht]
theorem apply_yes {S : Sm} {c : Cg} (h : rightB c = true) (ht : turnK S c = 0) : applyM S c = (turnS S c, 0) := by unfold applyM; rw [if_pos h, if_pos ht]
theorem apply_1a {S : Sm} {c : Cg} (h : rightB c = true) (hk : c.k = 1) {m : Mb} (hf : findM S.l c.w = some m) : applyM S c = (zsm, 13) := by
  have : turnK S c = 13 := by unfold turnK invK; rw [if_pos hk, hf]; rfl
  rw [apply_no h (by rw [this]; simp), this]
theorem apply_1b {S : Sm} {c : Cg} (h : rightB c = true) (hk : c.k = 1) (hf : findM S.l c.w = none) (hs : MOk S) : applyM S c = (⟨putM S.l (newM S.e c), S.e⟩, 0) := by
  have : turnK S c = 0 := by unfold turnK invK; rw [if_pos hk, hf]; rfl
  rw [apply_yes h this]
  unfold turnS invL
  rw [if_pos hk, hf, putM_eq hs.srt]
  have : findM S.l (newM S.e c).w = none := hf
  rw [this]
  rfl
theorem apply_2a {S : Sm} {c : Cg} (h : rightB c = true) (hk : c.k = 2) (hf : findM S.l c.w = none) : applyM S c = (zsm, 20) := by
  have : turnK S c = 20 := by unfold turnK revK; unfold findM at hf; rw [if_neg (by omega), if_pos hk, hf]
  rw [apply_no h (by rw [this]; simp), this]
theorem apply_2b {S : Sm} {c : Cg} (h : rightB c = true) (hk : c.k = 2) {m : Mb} (hf : findM S.l c.w = some m) (ht : m.t ≠ -1) : applyM S c = (zsm, 10) := by
  have ho : on m = false := by unfold on; simp [ht]
  have : turnK S c = 10 := by unfold turnK revK; unfold findM at hf; rw [if_neg (by omega), if_pos hk, hf]; simp [ho]
  rw [apply_no h (by rw [this]; simp), this]
theorem apply_2c {S : Sm} {c : Cg} (h : rightB c = true) (hk : c.k = 2) {m : Mb} (hf : findM S.l c.w = some m) (ht : m.t = -1) (hs : MOk S) : applyM S c = (⟨putM S.l (goneM m S.e c.l), S.e⟩, 0) := by
  have ho : on m = true := by unfold on; simp [ht]
  have hf' := hf
  have : turnK S c = 0 := by unfold turnK revK; unfold findM at hf; rw [if_neg (by omega), if_pos hk, hf]; simp [ho]
  rw [apply_yes h this]
  unfold turnS
  rw [if_neg (by omega), if_pos hk, revL_on hf' ho, putM_eq hs.srt]
  have e1 : (goneM m S.e c.l).w = c.w := (findM_some hf').2
  rw [e1, hf', setW_const hf']
  rfl
theorem apply_3 {S : Sm} {c : Cg} (h : rightB c = true) (hk : c.k = 3) (hs : MOk S) : applyM S c = if 19 ≤ S.e then (zsm, 2) else if (nowM S.l).map (·.w) = c.ws.map (·.w) ∧ (c.o.length = 0 ↔ S.e = -1) then (⟨S.l, S.e + 1⟩, 0) else (zsm, 10) := by
  have hw : wsF none c.ws = true := by
    have h1 := h
    unfold rightB wsB at h1
    rw [if_neg (by omega), if_neg (by omega), if_pos hk] at h1
    simp only [Bool.and_eq_true] at h1
    exact h1.1.2.1
  have hb : turnK S c = begK S.l S.e c := by unfold turnK; rw [if_neg (by omega), if_neg (by omega)]
  have hbk : begK S.l S.e c = if 19 ≤ S.e then 2 else if (nowM S.l).map (·.w) = c.ws.map (·.w) ∧ (c.o.length = 0 ↔ S.e = -1) then 0 else 10 := by
    unfold begK
    rw [wrap_eq hw (now_srt hs.srt)]
    by_cases h19 : 19 ≤ S.e
    · rw [if_pos h19, if_pos h19]
    · rw [if_neg h19, if_neg h19]
      by_cases h1 : (nowM S.l).map (·.w) = c.ws.map (·.w) <;> by_cases h2 : c.o.length = 0 <;> by_cases h3 : S.e = -1 <;> simp [h1, h2, h3] <;> omega
  by_cases h19 : 19 ≤ S.e
  · rw [if_pos h19] at hbk ⊢
    rw [apply_no h (by rw [hb, hbk]; simp), hb, hbk]
  · rw [if_neg h19] at hbk ⊢
    by_cases h1 : (nowM S.l).map (·.w) = c.ws.map (·.w) ∧ (c.o.length = 0 ↔ S.e = -1)
    · rw [if_pos h1] at hbk ⊢
      rw [apply_yes h (by rw [hb, hbk])]
      unfold turnS
      rw [if_neg (by omega), if_neg (by omega), if_pos hbk]
    · rw [if_neg h1] at hbk ⊢
      rw [apply_no h (by rw [hb, hbk]; simp), hb, hbk]
end Go.Proofs.Ytgoghmabhdkdjaa
