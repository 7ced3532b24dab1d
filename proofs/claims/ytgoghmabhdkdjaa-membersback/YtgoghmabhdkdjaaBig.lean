/-
  Structs of many cells, by value: sectors (65 cells) and writes (66 cells). What an operation on one runs to, whatever the cells are; lists of structs as cells (flat).
-/
import Derived.Test.YtgoghmabhdkdjaaMvs
import Derived.Test.YtgoghmabhdkdjaaLast
import Derived.Deep.MidRow
namespace Go.Proofs.Ytgoghmabhdkdjaa
set_option linter.unusedVariables false
set_option linter.unusedSimpArgs false
set_option synthInstance.maxSize 20000
set_option maxHeartbeats 2000000
set_option maxRecDepth 20000
open Go.RowKit Go.Maps

/-! ### Lists of structs, as cells -/
section
variable {α : Type} {f : α → List Value} {k : Nat}
def flat (f : α → List Value) (l : List α) : List Value := l.flatMap f
theorem flat_nil : flat f [] = [] := rfl
theorem flat_cons (x : α) (l : List α) : flat f (x :: l) = f x ++ flat f l := by simp [flat]
theorem flat_append (a b : List α) : flat f (a ++ b) = flat f a ++ flat f b := by simp [flat]
theorem flat_length (hk : ∀ x, (f x).length = k) (l : List α) : (flat f l).length = l.length * k := by
  induction l with
  | nil => simp [flat]
  | cons x l ih => rw [flat_cons, List.length_append, ih, hk, List.length_cons, Nat.add_mul, Nat.one_mul, Nat.add_comm]
theorem flat_at (hk : ∀ x, (f x).length = k) {l : List α} {i : Nat} {x : α} (h : l[i]? = some x) (j : Nat) (u : Value) (hj : (f x)[j]? = some u) : (flat f l)[i * k + j]? = some u := by
  induction l generalizing i with
  | nil => simp at h
  | cons y l ih =>
    have hjk : j < k := by have := (List.getElem?_eq_some_iff.1 hj).1; rw [hk] at this; exact this
    rw [flat_cons]
    cases i with
    | zero =>
      simp at h
      subst h
      rw [Nat.zero_mul, Nat.zero_add, List.getElem?_append_left (by rw [hk]; exact hjk)]
      exact hj
    | succ i =>
      rw [List.getElem?_append_right (by rw [hk, Nat.add_mul]; omega), hk]
      rw [show (i + 1) * k + j - k = i * k + j by rw [Nat.add_mul]; omega]
      exact ih (by simpa using h)
theorem flat_one {l : List α} (h : ∀ x ∈ l, ∀ u ∈ f x, u.oneCell' = true) : ∀ u ∈ flat f l, u.oneCell' = true := fun u hu => by
  unfold flat at hu
  rw [List.mem_flatMap] at hu
  obtain ⟨x, hx, hu⟩ := hu
  exact h x hx u hu
theorem flat_take (hk : ∀ x, (f x).length = k) (l : List α) (n : Nat) : (flat f l).take (n * k) = flat f (l.take n) := by
  induction l generalizing n with
  | nil => simp [flat]
  | cons y l ih =>
    cases n with
    | zero => simp [flat]
    | succ n =>
      rw [flat_cons, List.take_succ_cons, flat_cons, ← ih n, List.take_append, List.take_of_length_le (by rw [hk, Nat.add_mul]; omega), hk]
      rw [show (n + 1) * k - k = n * k by rw [Nat.add_mul]; omega]
theorem flat_drop (hk : ∀ x, (f x).length = k) (l : List α) (n : Nat) : (flat f l).drop (n * k) = flat f (l.drop n) := by
  induction l generalizing n with
  | nil => simp [flat]
  | cons y l ih =>
    cases n with
    | zero => simp [flat]
    | succ n =>
      rw [flat_cons, List.drop_succ_cons, ← ih n, List.drop_append, List.drop_of_length_le (by rw [hk, Nat.add_mul]; omega), List.nil_append, hk]
      rw [show (n + 1) * k - k = n * k by rw [Nat.add_mul]; omega]
theorem flat_set (hk : ∀ x, (f x).length = k) (l : List α) (i : Nat) (x : α) (hi : i < l.length) : splice (flat f l) (i * k) (f x) = flat f (l.set i x) := by
  unfold splice
  rw [hk, flat_take hk, show i * k + k = (i + 1) * k by rw [Nat.add_mul, Nat.one_mul], flat_drop hk, List.set_eq_take_append_cons_drop, if_pos hi, flat_append, flat_cons]
theorem flat_replicate (hk : ∀ x, (f x).length = k) (n : Nat) (x : α) (j : Nat) (hj : j < n * k) : (flat f (List.replicate n x))[j]? = (f x)[j % k]? := by
  have hk0 : 0 < k := by
    rcases Nat.eq_zero_or_pos k with h | h
    · subst h; simp at hj
    · exact h
  have hlt : j % k < (f x).length := by rw [hk]; exact Nat.mod_lt _ hk0
  have h1 := flat_at (f := f) hk (l := List.replicate n x) (i := j / k) (x := x) (by rw [List.getElem?_replicate, if_pos (Nat.div_lt_of_lt_mul (by rw [Nat.mul_comm]; exact hj))]) (j % k) _ (List.getElem?_eq_getElem hlt)
  rw [show j / k * k + j % k = j by rw [Nat.mul_comm]; exact Nat.div_add_mod j k] at h1
  rw [h1, List.getElem?_eq_getElem hlt]
end

/-! ### Sectors and writes -/

/-- A sector: its bytes, and whether it is torn. -/
structure Sec where
  d : List Int
  t : Bool
  len : d.length = 64
  oct : Oct d
theorem Sec.ext' {a b : Sec} (h : a.d = b.d) (ht : a.t = b.t) : a = b := by
  obtain ⟨d, t, l, o⟩ := a
  obtain ⟨d', t', l', o'⟩ := b
  dsimp only at h ht
  subst h ht
  rfl
theorem oct_zeros (n : Nat) : Oct (List.replicate n 0) := fun x hx => by
  rw [List.mem_replicate] at hx
  omega
def zs : Sec := ⟨List.replicate 64 0, false, by simp, oct_zeros 64⟩
def ts : Sec := ⟨List.replicate 64 0, true, by simp, oct_zeros 64⟩
def kc (s : Sec) : List Value := cs8 s.d ++ [.bool s.t]
theorem kc_len (s : Sec) : (kc s).length = 65 := by simp [kc, cs8, s.len]
theorem kc_one (s : Sec) : ∀ u ∈ kc s, u.oneCell' = true := fun u hu => by
  rcases List.mem_append.1 hu with h | h
  · exact cs8_one s.d u h
  · simp at h; subst h; rfl
theorem kc_byte (s : Sec) (j : Nat) (hj : j < 64) : (kc s)[j]? = some (.int .u8 (s.d.getD j 0)) := by
  unfold kc
  rw [List.getElem?_append_left (by rw [cs8_length, s.len]; exact hj)]
  exact cs8_at _ _ (by rw [s.len]; exact hj)
theorem kc_torn (s : Sec) : (kc s)[64]? = some (.bool s.t) := by
  unfold kc
  rw [List.getElem?_append_right (by rw [cs8_length, s.len]; exact Nat.le_refl _), cs8_length, s.len]
  rfl
abbrev Wr := Nat × Sec
def wc (q : Wr) : List Value := .int .i64 (q.1 : Int) :: kc q.2
theorem wc_len (q : Wr) : (wc q).length = 66 := by simp [wc, kc_len]
theorem wc_one (q : Wr) : ∀ u ∈ wc q, u.oneCell' = true := fun u hu => by
  rcases List.mem_cons.1 hu with h | h
  · subst h; rfl
  · exact kc_one _ u h
theorem flat_kc_one (l : List Sec) : ∀ u ∈ flat kc l, u.oneCell' = true := flat_one fun x _ => kc_one x
theorem flat_wc_one (l : List Wr) : ∀ u ∈ flat wc l, u.oneCell' = true := flat_one fun x _ => wc_one x

/-! ### The operations -/
section
variable {P : Program} {w : World} {ops : Array Oper} {rest : List Oper} {o : Oper} {a : Act} {Q : Exit → Act → World → Prop} {v : Value} {w' : World}
theorem wpList_ok (hgd : o.guard = none) (hr : (execOp a.eval o).run P w = .ok (.value v) w') (h : wpList P ops Q rest (a.put o.dst v) w') : wpList P ops Q (o :: rest) a w := by
  refine wpList_plain hgd fun K hK => ?_
  unfold Oper.wp
  rw [hr]
  exact hK _ _ h
theorem wpList_skip (hgd : o.guard = none) (hr : (execOp a.eval o).run P w = .ok .skip w') (h : wpList P ops Q rest (a.put o.dst undef) w') : wpList P ops Q (o :: rest) a w := by
  refine wpList_plain hgd fun K hK => ?_
  unfold Oper.wp
  rw [hr]
  exact hK _ _ h
theorem wp_ok {K : Act → World → Prop} (hr : (execOp a.eval o).run P w = .ok (.value v) w') (h : K (a.put o.dst v) w') : o.wp P a w K Q := by
  unfold Oper.wp
  rw [hr]
  exact h
theorem wp_skip {K : Act → World → Prop} (hr : (execOp a.eval o).run P w = .ok .skip w') (h : K (a.put o.dst undef) w') : o.wp P a w K Q := by
  unfold Oper.wp
  rw [hr]
  exact h
theorem quiet_ok {C : World → Prop} {K : Act → Prop} (hgd : o.guard = none) (hr : ∀ w, C w → (execOp a.eval o).run P w = .ok (.value v) w) (h : K (a.put o.dst v)) : wpQuiet P ops C K [o] a := by
  unfold wpQuiet
  rw [if_pos (by simp only [Region.wanted, hgd])]
  refine ⟨v, fun w hw => ?_, h⟩
  unfold Oper.quietAt
  rw [hr w hw]
  exact ⟨rfl, rfl⟩
end
section
variable {o : Oper} {r : Operand → Value}
def zw : Wr := (0, zs)
theorem list65 {α : Type} {xs : List α} (h : xs.length = 65) : ∃ c0 c1 c2 c3 c4 c5 c6 c7 c8 c9 c10 c11 c12 c13 c14 c15 c16 c17 c18 c19 c20 c21 c22 c23 c24 c25 c26 c27 c28 c29 c30 c31 c32 c33 c34 c35 c36 c37 c38 c39 c40 c41 c42 c43 c44 c45 c46 c47 c48 c49 c50 c51 c52 c53 c54 c55 c56 c57 c58 c59 c60 c61 c62 c63 c64, xs = [c0, c1, c2, c3, c4, c5, c6, c7, c8, c9, c10, c11, c12, c13, c14, c15, c16, c17, c18, c19, c20, c21, c22, c23, c24, c25, c26, c27, c28, c29, c30, c31, c32, c33, c34, c35, c36, c37, c38, c39, c40, c41, c42, c43, c44, c45, c46, c47, c48, c49, c50, c51, c52, c53, c54, c55, c56, c57, c58, c59, c60, c61, c62, c63, c64] := by
  match xs, h with
  | c0 :: c1 :: c2 :: c3 :: c4 :: c5 :: c6 :: c7 :: c8 :: c9 :: c10 :: c11 :: c12 :: c13 :: c14 :: c15 :: c16 :: c17 :: c18 :: c19 :: c20 :: c21 :: c22 :: c23 :: c24 :: c25 :: c26 :: c27 :: c28 :: c29 :: c30 :: c31 :: c32 :: c33 :: c34 :: c35 :: c36 :: c37 :: c38 :: c39 :: c40 :: c41 :: c42 :: c43 :: c44 :: c45 :: c46 :: c47 :: c48 :: c49 :: c50 :: c51 :: c52 :: c53 :: c54 :: c55 :: c56 :: c57 :: c58 :: c59 :: c60 :: c61 :: c62 :: c63 :: c64 :: [], _ => exact ⟨c0, c1, c2, c3, c4, c5, c6, c7, c8, c9, c10, c11, c12, c13, c14, c15, c16, c17, c18, c19, c20, c21, c22, c23, c24, c25, c26, c27, c28, c29, c30, c31, c32, c33, c34, c35, c36, c37, c38, c39, c40, c41, c42, c43, c44, c45, c46, c47, c48, c49, c50, c51, c52, c53, c54, c55, c56, c57, c58, c59, c60, c61, c62, c63, c64, rfl⟩
theorem list66 {α : Type} {xs : List α} (h : xs.length = 66) : ∃ c0 c1 c2 c3 c4 c5 c6 c7 c8 c9 c10 c11 c12 c13 c14 c15 c16 c17 c18 c19 c20 c21 c22 c23 c24 c25 c26 c27 c28 c29 c30 c31 c32 c33 c34 c35 c36 c37 c38 c39 c40 c41 c42 c43 c44 c45 c46 c47 c48 c49 c50 c51 c52 c53 c54 c55 c56 c57 c58 c59 c60 c61 c62 c63 c64 c65, xs = [c0, c1, c2, c3, c4, c5, c6, c7, c8, c9, c10, c11, c12, c13, c14, c15, c16, c17, c18, c19, c20, c21, c22, c23, c24, c25, c26, c27, c28, c29, c30, c31, c32, c33, c34, c35, c36, c37, c38, c39, c40, c41, c42, c43, c44, c45, c46, c47, c48, c49, c50, c51, c52, c53, c54, c55, c56, c57, c58, c59, c60, c61, c62, c63, c64, c65] := by
  match xs, h with
  | c0 :: c1 :: c2 :: c3 :: c4 :: c5 :: c6 :: c7 :: c8 :: c9 :: c10 :: c11 :: c12 :: c13 :: c14 :: c15 :: c16 :: c17 :: c18 :: c19 :: c20 :: c21 :: c22 :: c23 :: c24 :: c25 :: c26 :: c27 :: c28 :: c29 :: c30 :: c31 :: c32 :: c33 :: c34 :: c35 :: c36 :: c37 :: c38 :: c39 :: c40 :: c41 :: c42 :: c43 :: c44 :: c45 :: c46 :: c47 :: c48 :: c49 :: c50 :: c51 :: c52 :: c53 :: c54 :: c55 :: c56 :: c57 :: c58 :: c59 :: c60 :: c61 :: c62 :: c63 :: c64 :: c65 :: [], _ => exact ⟨c0, c1, c2, c3, c4, c5, c6, c7, c8, c9, c10, c11, c12, c13, c14, c15, c16, c17, c18, c19, c20, c21, c22, c23, c24, c25, c26, c27, c28, c29, c30, c31, c32, c33, c34, c35, c36, c37, c38, c39, c40, c41, c42, c43, c44, c45, c46, c47, c48, c49, c50, c51, c52, c53, c54, c55, c56, c57, c58, c59, c60, c61, c62, c63, c64, c65, rfl⟩
end
end Go.Proofs.Ytgoghmabhdkdjaa
