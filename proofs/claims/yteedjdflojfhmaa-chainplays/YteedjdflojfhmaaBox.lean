/-
  Bytes of strings, and what stands behind sealed bytes, by the oracle by lists.
-/
import Derived.Test.YteedjdflojfhmaaSign
import Derived.Lib.ConvBytes
namespace Go.Proofs.Yteedjdflojfhmaa
set_option linter.unusedVariables false
set_option synthInstance.maxSize 20000
open Classical
open Go.RowKit Go.Maps

theorem str_size {l : List Int} (ho : Oct l) : (strOfNums l).size = l.length := by rw [← sb_length, sb_strOfNums l ho]

section
variable {w : World} {ops : Array Oper} {rest : List Oper} {o : Oper} {a : Act} {Q : Exit → Act → World → Prop}
/-- '[]byte(s)'. -/
theorem wpList_toBytes (hg : o.guard = none) (x : Operand) (hop : o.op = Op.convert 9 43 x) (l : List Int) (ho : Oct l) (hl : l.length ≤ maxLen) (hx : a.eval x = .string (strOfNums l))
    (hK : ∀ v' w', Rd w' v' l → Below w.heap.size w w' → (∀ k, v'.ownBlock = some k → w.heap.size ≤ k ∧ k < w'.heap.size) → wpList Try.prog ops Q rest (a.put o.dst v') w') : wpList Try.prog ops Q (o :: rest) a w := by
  refine wpList_plain hg fun K' hK' => ?_
  have hrun := Lib.run_convert_string_bytes (P := Try.prog) w 9 43 5 (strOfNums l) (u := .string) (by kernel_rfl) (by kernel_rfl) (by kernel_rfl)
  unfold Oper.wp
  simp [execOp, hop, hx, hrun, Result.andThen]
  refine hK' _ _ (hK _ _ ⟨ho, some ⟨w.heap.size, 0, none⟩, grownCap w (strOfNums l).size 0 5, by rw [str_size ho], by rw [← str_size ho]; exact grownCap_ge _ _ _ _, grownCap_le_maxLen _ _ _ _ (by rw [str_size ho]; exact hl), (fun h => by cases h), fun hp => ⟨w.heap.size, 0, rfl, fun j hj => ?_⟩⟩ ⟨rfl, rfl, rfl, by rw [Lib.bytesWorld_size]; omega, fun k hk => Lib.bytesWorld_at_old w 5 _ k hk⟩ (fun k hk => ?_))
  · rw [Nat.zero_add, Lib.bytesWorld_cell w 5 (strOfNums l) j (by rw [str_size ho]; exact hj)]
    have e := nums_str l ho
    have e2 : (nums (strOfNums l).data.toList).getD j 0 = l.getD j 0 := by rw [e]
    have hj2 : j < (strOfNums l).data.toList.length := by
      have h3 := congrArg List.length e
      unfold nums at h3
      rw [List.length_map] at h3
      rw [h3]
      exact hj
    rw [← e2]
    unfold nums
    rw [List.getD_eq_getElem?_getD, List.getD_eq_getElem?_getD, List.getElem?_map, List.getElem?_eq_getElem hj2]
    rfl
  · simp only [Value.ownBlock, Option.some.injEq] at hk
    subst hk
    exact ⟨Nat.le_refl _, by rw [Lib.bytesWorld_size]; omega⟩
end

/-- What a call leaves that hands out bytes. -/
def LeftB (w : World) (b : Nat) (ft : List Nat) (S' : St) (w' : World) (v' : Value) (l : List Int) : Prop :=
  Rd w' v' l ∧ (∃ ft', Rep w' b ft' S' ∧ Of ft w ft' ∧ Out ft' v') ∧ Turn ft w w' ∧ ∀ k, v'.ownBlock = some k → w.heap.size ≤ k ∧ k < w'.heap.size

theorem LeftB.nil {w w' : World} {b : Nat} {ft : List Nat} {S : St} (h : Rep w b ft S) (hb : Below w.heap.size w w') : LeftB w b ft S w' (.slice none 0 0) [] :=
  ⟨rd_nil _, ⟨ft, h.below hb, Of.refl _ _, fun k hk => by cases hk⟩, Turn.of_below hb, fun k hk => by cases hk⟩
/-- New bytes behind a call. -/
theorem LeftB.mk' {w w1 w2 : World} {b : Nat} {ft : List Nat} {S : St} {v : Value} {l : List Int} (h : Left w b ft S w1) (ho : Own w1.heap.size 5 w2 v l) (hb : Below w1.heap.size w1 w2) : LeftB w b ft S w2 v l := by
  obtain ⟨⟨ft', hr, hof⟩, ht⟩ := h
  have hlt := fun k hk => ho.2.lt k hk
  refine ⟨ho.rd, ⟨ft', hr.below hb, hof, fun k hk e => ?_⟩, ht.same (Turn.of_below hb), fun k hk => ?_⟩
  · have := hr.room k e
    have := (hlt k hk).1
    omega
  · have := (hlt k hk)
    have := ht.size
    omega

theorem at_zero {S : St} (hg : Good S) : S.at 0 = none := by
  cases e : S.at 0 with
  | none => rfl
  | some x => exact absurd rfl (at_ok hg e).2.1
theorem Stand.find {T : Tab} {S : St} (h : Stand T S) (l : List Int) : T.at (headOf l) = ((S.find l).map thingOf).getD noThing := by
  rw [h.at]
  unfold headOf St.find
  by_cases h8 : l.length < 8
  · rw [if_pos h8, if_neg (by omega), at_zero h.good]
  · rw [if_neg h8, if_pos (by omega)]
theorem head_ge {l : List Int} {h : Int} {z : Nat} (e : l = boxOf h z) : headOf l = ofBe8 l := by
  unfold headOf
  rw [if_neg (by rw [e, boxOf_length]; omega)]

/-- Open, by what find answers. -/
theorem Stand.open {T : Tab} {S : St} (h : Stand T S) (k : Int) (b l : List Int) : ∃ t ok, T.find 4 l = (t, ok) ∧ Oct t.bound ∧ Oct t.plain ∧ S.open k b l = if ok then (if t.key = k then (if t.bound = b then (t.plain, 0) else ([], 5)) else ([], 11)) else ([], 4) := by
  have hO := thing_oct h.good (headOf l)
  rw [← h.at] at hO
  have hf := h.find l
  unfold Tab.find St.open
  cases e : S.find l with
  | none =>
    rw [e] at hf
    rw [hf]
    exact ⟨noThing, false, by simp [noThing], Oct.nil, Oct.nil, rfl⟩
  | some x =>
    rw [e] at hf
    rw [hf] at hO ⊢
    have hx : ∀ k' b' p, x = .seal k' b' p → (if (thingOf x).use = 4 ∧ l = boxOf (headOf l) (thingOf x).zeros then (thingOf x, true) else (noThing, false)) = if l = boxOf (ofBe8 l) (zerosOf p) then (thingOf x, true) else (noThing, false) := by
      intro k' b' p e
      subst e
      by_cases hl : l = boxOf (headOf l) (zerosOf p)
      · have hh := head_ge hl
        rw [hh] at hl
        simp only [thingOf, true_and, hh]
      · have hl2 : ¬ l = boxOf (ofBe8 l) (zerosOf p) := fun e => hl (by rw [head_ge e]; exact e)
        simp only [thingOf, true_and]
        rw [if_neg hl, if_neg hl2]
    have hn : (∀ k' b' p, x ≠ .seal k' b' p) → (if (thingOf x).use = 4 ∧ l = boxOf (headOf l) (thingOf x).zeros then (thingOf x, true) else (noThing, false)) = (noThing, false) := by
      intro hne
      rw [if_neg]
      intro e
      cases x using What.each <;> simp [thingOf] at e
      exact hne _ _ _ rfl
    simp only [Option.map_some, Option.getD_some]
    cases x using What.each with
    | sealed k' b' p =>
      rw [hx k' b' p rfl]
      by_cases hl : l = boxOf (ofBe8 l) (zerosOf p)
      · rw [if_pos hl]
        refine ⟨_, true, rfl, hO.1, hO.2, ?_⟩
        simp only [if_pos hl, thingOf, if_true]
        rfl
      · rw [if_neg hl]
        refine ⟨_, false, rfl, Oct.nil, Oct.nil, ?_⟩
        simp only [if_neg hl]
        rfl
    | _ => exact ⟨noThing, false, hn (by simp), Oct.nil, Oct.nil, rfl⟩

/-- Unwrap, by what find answers. -/
theorem Stand.unwrap {T : Tab} {S : St} (h : Stand T S) (s : Int) (l : List Int) : ∃ t ok, T.find 5 l = (t, ok) ∧ S.unwrap s l = if ok then (if t.secret = s then (t.key, 0) else (0, 11)) else (0, 4) := by
  have hf := h.find l
  unfold Tab.find St.unwrap
  cases e : S.find l with
  | none =>
    rw [e] at hf
    rw [hf]
    exact ⟨noThing, false, by simp [noThing], rfl⟩
  | some x =>
    rw [e] at hf
    rw [hf]
    simp only [Option.map_some, Option.getD_some]
    have hn : (∀ s' k' p, x ≠ .wrap s' k' p) → (if (thingOf x).use = 5 ∧ l = boxOf (headOf l) (thingOf x).zeros then (thingOf x, true) else (noThing, false)) = (noThing, false) := by
      intro hne
      rw [if_neg]
      intro e
      cases x using What.each <;> simp [thingOf] at e
      exact hne _ _ _ rfl
    cases x using What.each with
    | wrap s' k' p =>
      by_cases hl : l = boxOf (ofBe8 l) 8
      · have hh := head_ge hl
        refine ⟨thingOf (.wrap s' k' p), true, ?_, ?_⟩
        · rw [hh]; rw [if_pos ⟨rfl, hl⟩]
        · simp only [if_pos hl, thingOf, if_true]
          rfl
      · refine ⟨noThing, false, ?_, ?_⟩
        · rw [if_neg]
          intro e
          exact hl (by have := e.2; rw [head_ge this] at this; exact this)
        · simp only [if_neg hl]; rfl
    | _ => exact ⟨noThing, false, hn (by simp), rfl⟩
end Go.Proofs.Yteedjdflojfhmaa
