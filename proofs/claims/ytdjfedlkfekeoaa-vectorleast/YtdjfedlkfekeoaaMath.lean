/-
  The plain mathematics of layer 1's forms: the form of a number, and the reading of one; no program is named here.
-/
import Derived.WalkKit
namespace Go.Proofs.Ytdjfedlkfekeoaa
set_option linter.unusedVariables false

/-- The form of a number: seven bits a byte, the lowest first. -/
def formF : Nat → Nat → List Int
  | 0, _ => []
  | f + 1, n => if n < 128 then [(n : Int)] else ((n % 128 : Nat) + 128 : Int) :: formF f (n / 128)
def form (n : Nat) : List Int := formF (n + 1) n

theorem formF_eq : ∀ (f g n : Nat), n < f → n < g → formF f n = formF g n
  | 0, _, _, h, _ => absurd h (Nat.not_lt_zero _)
  | _ + 1, 0, _, _, h => absurd h (Nat.not_lt_zero _)
  | f + 1, g + 1, n, hf, hg => by
    show (if n < 128 then [(n : Int)] else ((n % 128 : Nat) + 128 : Int) :: formF f (n / 128)) = if n < 128 then [(n : Int)] else ((n % 128 : Nat) + 128 : Int) :: formF g (n / 128)
    by_cases h : n < 128
    · rw [if_pos h, if_pos h]
    · rw [if_neg h, if_neg h, formF_eq f g (n / 128) (by omega) (by omega)]
theorem form_lt {n : Nat} (h : n < 128) : form n = [(n : Int)] := if_pos h
theorem form_ge {n : Nat} (h : ¬ n < 128) : form n = ((n % 128 : Nat) + 128 : Int) :: form (n / 128) := by
  have h1 : form n = ((n % 128 : Nat) + 128 : Int) :: formF n (n / 128) := if_neg h
  rw [h1, form, formF_eq n (n / 128 + 1) (n / 128) (by omega) (by omega)]

/-- May a byte x at place i end a form? -/
def endsB (x : Int) (i : Nat) : Bool := if i = 9 then x == 1 else (x != 0 || i == 0)

/-- The number whose form l begins with (from place i of the form on), and what is behind it. -/
def parse : Nat → List Int → Option (Nat × List Int)
  | _, [] => none
  | i, x :: r => if 10 ≤ i then none else if x < 128 then (if endsB x i then some (x.toNat, r) else none) else (parse (i + 1) r).map fun q => ((x - 128).toNat + 128 * q.1, q.2)

/-- Bytes. -/
def Oct (l : List Int) : Prop := ∀ x ∈ l, 0 ≤ x ∧ x < 256

theorem Oct.nil : Oct [] := fun _ h => by cases h
theorem Oct.cons {x : Int} {l : List Int} (h : 0 ≤ x ∧ x < 256) (hl : Oct l) : Oct (x :: l) := fun y hy => by
  rcases List.mem_cons.1 hy with rfl | hy
  · exact h
  · exact hl y hy
theorem Oct.append {a b : List Int} (ha : Oct a) (hb : Oct b) : Oct (a ++ b) := fun x hx => by
  rcases List.mem_append.1 hx with h | h
  · exact ha x h
  · exact hb x h
theorem Oct.of_append {a b : List Int} (h : Oct (a ++ b)) : Oct a ∧ Oct b := ⟨fun x hx => h x (List.mem_append.2 (.inl hx)), fun x hx => h x (List.mem_append.2 (.inr hx))⟩
theorem Oct.drop {l : List Int} (h : Oct l) (k : Nat) : Oct (l.drop k) := fun x hx => h x (List.mem_of_mem_drop hx)
theorem Oct.take {l : List Int} (h : Oct l) (k : Nat) : Oct (l.take k) := fun x hx => h x (List.mem_of_mem_take hx)
theorem Oct.at {l : List Int} (h : Oct l) (j : Nat) : 0 ≤ l.getD j 0 ∧ l.getD j 0 < 256 := by
  rw [List.getD_eq_getElem?_getD]
  rcases Nat.lt_or_ge j l.length with hj | hj
  · rw [List.getElem?_eq_getElem hj]; exact h _ (List.getElem_mem hj)
  · rw [List.getElem?_eq_none hj]; simp

theorem form_oct (n : Nat) : Oct (form n) := by
  induction n using Nat.strongRecOn with
  | _ n ih =>
    by_cases h : n < 128
    · rw [form_lt h]; exact Oct.cons (by omega) Oct.nil
    · rw [form_ge h]; exact Oct.cons (by omega) (ih _ (by omega))

theorem form_pos (n : Nat) : 0 < (form n).length := by
  by_cases h : n < 128
  · rw [form_lt h]; simp
  · rw [form_ge h]; simp

theorem form_length {n : Nat} : ∀ (k : Nat), n < 128 ^ k → 0 < k → (form n).length ≤ k := by
  intro k
  induction k generalizing n with
  | zero => intro _ h; omega
  | succ k ih =>
    intro h _
    by_cases hn : n < 128
    · rw [form_lt hn]; simp
    · rw [form_ge hn]
      rcases Nat.eq_zero_or_pos k with rfl | hk
      · simp at h; omega
      · have := @ih (n / 128) (by rw [Nat.pow_succ] at h; omega) hk
        simp only [List.length_cons]; omega

theorem form_le10 {n : Nat} (h : n < 18446744073709551616) : (form n).length ≤ 10 := form_length 10 (by omega) (by omega)

/-- What was put is read as it was: the bound is what is left of 64 bits at place i. -/
theorem parse_form (n : Nat) : ∀ (i : Nat) (r : List Int), i ≤ 9 → n * 128 ^ i < 18446744073709551616 → (i = 0 ∨ n ≠ 0) → parse i (form n ++ r) = some (n, r) := by
  induction n using Nat.strongRecOn with
  | _ n ih =>
    intro i r hi hb h0
    by_cases h : n < 128
    · rw [form_lt h]
      have he : endsB (n : Int) i = true := by
        unfold endsB
        split
        · rename_i h9; subst h9
          have : n < 2 := by omega
          have : n = 1 := by omega
          subst this; rfl
        · rcases h0 with rfl | h0
          · simp
          · have : ((n : Int) != 0) = true := by simp; omega
            simp [this]
      simp [parse, he, show ¬ 10 ≤ i by omega, show (n : Int) < 128 by omega]
    · rw [form_ge h]
      have hi9 : i ≠ 9 := by
        rintro rfl
        omega
      have hk : n / 128 * 128 ^ (i + 1) < 18446744073709551616 := by
        have e : n / 128 * 128 ^ (i + 1) = n / 128 * 128 * 128 ^ i := by rw [Nat.pow_succ, Nat.mul_assoc, Nat.mul_comm (128 ^ i) 128]
        have : n / 128 * 128 * 128 ^ i ≤ n * 128 ^ i := Nat.mul_le_mul_right _ (Nat.div_mul_le_self n 128)
        omega
      have := ih (n / 128) (by omega) (i + 1) r (by omega) hk (.inr (by omega))
      simp only [List.cons_append, parse, this, show ¬ 10 ≤ i by omega, show ¬ (((n % 128 : Nat) : Int) + 128 < 128) by omega, if_false, Option.map_some]
      congr 2
      omega

/-- What is read has no other form. -/
theorem parse_some : ∀ (l : List Int) (i n : Nat) (r : List Int), Oct l → parse i l = some (n, r) → l = form n ++ r ∧ n * 128 ^ i < 18446744073709551616 ∧ (i = 0 ∨ n ≠ 0) := by
  intro l
  induction l with
  | nil => intro i n r _ h; simp [parse] at h
  | cons x l ih =>
    intro i n r ho h
    have hx := ho x (by simp)
    simp only [parse] at h
    split at h
    · cases h
    · rename_i hi
      split at h
      · rename_i hlt
        split at h
        · rename_i he
          simp only [Option.some.injEq, Prod.mk.injEq] at h
          obtain ⟨rfl, rfl⟩ := h
          have h9 : x.toNat < 128 := by omega
          refine ⟨?_, ?_, ?_⟩
          · rw [form_lt h9]; simp; omega
          · unfold endsB at he
            split at he
            · rename_i e9; subst e9
              have : x = 1 := by simpa using he
              subst this; decide
            · have : i ≤ 8 := by omega
              have hp : 128 ^ i ≤ 128 ^ 8 := Nat.pow_le_pow_right (by omega) this
              have : x.toNat * 128 ^ i ≤ 127 * 128 ^ 8 := Nat.mul_le_mul (by omega) hp
              omega
          · unfold endsB at he
            split at he
            · have : x = 1 := by simpa using he
              subst this; right; decide
            · simp only [Bool.or_eq_true, bne_iff_ne, ne_eq, beq_iff_eq] at he
              rcases he with he | he
              · right; omega
              · left; exact he
        · cases h
      · rename_i hge
        cases hp : parse (i + 1) l with
        | none => rw [hp] at h; cases h
        | some q =>
          obtain ⟨m, s⟩ := q
          rw [hp] at h
          simp only [Option.map_some, Option.some.injEq, Prod.mk.injEq] at h
          obtain ⟨rfl, rfl⟩ := h
          obtain ⟨e, hb, h0⟩ := ih (i + 1) m s (fun y hy => ho y (by simp [hy])) hp
          have hm : m ≠ 0 := by omega
          have hn : ¬ (x - 128).toNat + 128 * m < 128 := by omega
          refine ⟨?_, ?_, .inr (by omega)⟩
          · rw [form_ge hn, show ((x - 128).toNat + 128 * m) / 128 = m by omega, e]
            simp; omega
          · have e1 : m * 128 ^ (i + 1) = 128 * m * 128 ^ i := by rw [Nat.pow_succ]; ac_rfl
            have hi8 : i ≤ 8 := by
              by_cases h9 : i = 9
              · subst h9
                exfalso
                cases l with
                | nil => simp [parse] at hp
                | cons y l => simp [parse] at hp
              · omega
            have hk : ∃ q, 18446744073709551616 = 128 * 128 ^ i * q ∧ m < q := by
              have : (i = 0 ∨ i = 1 ∨ i = 2 ∨ i = 3 ∨ i = 4 ∨ i = 5 ∨ i = 6 ∨ i = 7 ∨ i = 8) := by omega
              rcases this with rfl | rfl | rfl | rfl | rfl | rfl | rfl | rfl | rfl
              · exact ⟨144115188075855872, by decide, by omega⟩
              · exact ⟨1125899906842624, by decide, by omega⟩
              · exact ⟨8796093022208, by decide, by omega⟩
              · exact ⟨68719476736, by decide, by omega⟩
              · exact ⟨536870912, by decide, by omega⟩
              · exact ⟨4194304, by decide, by omega⟩
              · exact ⟨32768, by decide, by omega⟩
              · exact ⟨256, by decide, by omega⟩
              · exact ⟨2, by decide, by omega⟩
            obtain ⟨q, hq, hmq⟩ := hk
            have : (x - 128).toNat + 128 * m < 128 * q := by omega
            calc ((x - 128).toNat + 128 * m) * 128 ^ i < 128 * q * 128 ^ i := Nat.mul_lt_mul_of_pos_right this (Nat.pow_pos (by omega))
              _ = 18446744073709551616 := by rw [hq]; ac_rfl

/-- The number that stands for one that may be below 0, and back. -/
def zig (m : Int) : Nat := if m < 0 then (-2 * m - 1).toNat else (2 * m).toNat
def zag (n : Nat) : Int := if n % 2 = 1 then -((n / 2 : Nat) : Int) - 1 else ((n / 2 : Nat) : Int)
theorem zag_zig (m : Int) : zag (zig m) = m := by unfold zag zig; split <;> split <;> omega
theorem zig_zag (n : Nat) : zig (zag n) = n := by unfold zag zig; split <;> split <;> omega

/-! ### Bits of a byte, and of a number -/

theorem or128_fin : ∀ x : Fin 256, bits .or .u8 (x.val : Int) 128 = (x.val : Int) % 128 + 128 := by decide +kernel
theorem not128_fin : ∀ x : Fin 256, bits .andNot .u8 (x.val : Int) 128 = (x.val : Int) % 128 := by decide +kernel

theorem or128 (x : Int) (h0 : 0 ≤ x) (h1 : x < 256) : bits .or .u8 x 128 = x % 128 + 128 := by
  obtain ⟨a, rfl⟩ := Int.eq_ofNat_of_zero_le h0
  exact or128_fin ⟨a, by omega⟩
theorem not128 (x : Int) (h0 : 0 ≤ x) (h1 : x < 256) : bits .andNot .u8 x 128 = x % 128 := by
  obtain ⟨a, rfl⟩ := Int.eq_ofNat_of_zero_le h0
  exact not128_fin ⟨a, by omega⟩

theorem wraps_u64 (n : Int) (h₀ : 0 ≤ n) (h₁ : n < 2 ^ 64) : IntKind.u64.wrap n = n := by rw [IntKind.wrap_u64]; omega
theorem and1 (x : Int) (h0 : 0 ≤ x) (h1 : x < 2 ^ 64) : bits .and .u64 x 1 = x % 2 := bits_mask .u64 64 (by decide) wraps_u64 1 (by decide) x h0 h1
theorem or1 (x : Int) (h0 : 0 ≤ x) (h1 : x < 2 ^ 64) (h2 : x % 2 = 0) : bits .or .u64 x 1 = x + 1 :=
  bits_join .u64 64 (by decide) wraps_u64 1 x 1 h0 (by simpa using h2) h1 (by decide) (by decide) (by decide)

theorem not64 (m : Int) (hm : -9223372036854775808 ≤ m ∧ m ≤ 9223372036854775807) : bits .xor .i64 (-1) m = -m - 1 := by
  have h1 : BitVec.ofInt 64 (-1) = BitVec.allOnes 64 := by decide
  show IntKind.i64.wrap ((BitVec.ofInt 64 (-1) ^^^ BitVec.ofInt 64 m).toNat : Int) = -m - 1
  rw [h1, BitVec.allOnes_xor, BitVec.toNat_not, BitVec.toNat_ofInt, IntKind.wrap_i64]
  omega
theorem neg_zig (m : Int) (h : m < 0) (hm : -9223372036854775808 ≤ m ∧ m ≤ 9223372036854775807) :
    bits .or .u64 (IntKind.u64.wrap (IntKind.u64.wrap (bits .xor .i64 (if IntKind.i64.signed = true then -1 else 9223372036854775807) m) * 2)) 1 = ((zig m : Nat) : Int) := by
  have e : (if IntKind.i64.signed = true then (-1 : Int) else 9223372036854775807) = -1 := rfl
  rw [e, not64 m hm, IntKind.wrap_u64, IntKind.wrap_u64, or1 _ (by omega) (by omega) (by omega)]
  unfold zig
  rw [if_pos h]
  omega
theorem zig_lt (m : Int) (hm : -9223372036854775808 ≤ m ∧ m ≤ 9223372036854775807) : zig m < 18446744073709551616 := by unfold zig; split <;> omega

/-! ### The loop that reads a number -/

/-- The number that l begins with, and the length of its form; (0, 0): none. -/
def numAt (l : List Int) : Nat × Nat := match parse 0 l with
  | some (n, r) => (n, l.length - r.length)
  | none => (0, 0)

/-- What the loop has of the first k bytes. -/
def Upto (l : List Int) (k acc : Nat) : Prop :=
  (k ≤ 9 → acc < 128 ^ k ∧ parse 0 l = (parse k (l.drop k)).map fun q => (acc + 128 ^ k * q.1, q.2)) ∧ (10 ≤ k → parse 0 l = none)

/-- The number that the loop has behind one round more, as the program reckons it. -/
def nextAcc (acc k : Nat) (x : Int) : Int := bits .or .u64 (acc : Int) (IntKind.u64.wrap (x % 128 * 2 ^ (7 * k)))

theorem nextAcc_nonneg (acc k : Nat) (x : Int) : 0 ≤ nextAcc acc k x := by
  unfold nextAcc bits
  exact wrap_u64_nonneg _

theorem nextAcc_eq (acc k : Nat) (x : Int) (hk : k ≤ 9) (ha : acc < 128 ^ k) (hx : 0 ≤ x ∧ x < 256) (h9 : k = 9 → x % 128 ≤ 1) : nextAcc acc k x = ((acc + 128 ^ k * (x % 128).toNat : Nat) : Int) := by
  obtain ⟨y, hy⟩ := Int.eq_ofNat_of_zero_le (show 0 ≤ x % 128 by omega)
  have hy1 : y < 128 := by omega
  have hy9 : k = 9 → y ≤ 1 := fun h => by have := h9 h; omega
  have hb : y * 2 ^ (7 * k) + 128 ^ k ≤ 2 ^ 64 := by
    have : (k = 0 ∨ k = 1 ∨ k = 2 ∨ k = 3 ∨ k = 4 ∨ k = 5 ∨ k = 6 ∨ k = 7 ∨ k = 8 ∨ k = 9) := by omega
    rcases this with rfl | rfl | rfl | rfl | rfl | rfl | rfl | rfl | rfl | rfl
    all_goals omega
  have hp : (128 : Nat) ^ k = 2 ^ (7 * k) := by rw [Nat.pow_mul]
  have hpos : 0 < 2 ^ (7 * k) := Nat.two_pow_pos _
  have e1 : x % 128 * 2 ^ (7 * k) = ((y * 2 ^ (7 * k) : Nat) : Int) := by rw [hy]; simp
  have hlt : y * 2 ^ (7 * k) < 2 ^ 64 := by omega
  have e2 : IntKind.u64.wrap (x % 128 * 2 ^ (7 * k)) = ((y * 2 ^ (7 * k) : Nat) : Int) := by
    rw [e1]; exact wraps_u64 _ (by omega) (by exact_mod_cast hlt)
  unfold nextAcc
  have hacc : acc < 2 ^ 64 := by omega
  rw [e2, (bits_nat .u64 64 (by decide) wraps_u64 acc (y * 2 ^ (7 * k)) hacc hlt).2]
  have e3 : acc ||| y * 2 ^ (7 * k) = acc + 128 ^ k * (x % 128).toNat := by
    rw [hy, Nat.or_comm, Nat.mul_comm y, ← Nat.two_pow_add_eq_or_of_lt (by omega), hp]
    simp; omega
  rw [e3]

theorem drop_at {l : List Int} {k : Nat} (h : k < l.length) : l.drop k = l.getD k 0 :: l.drop (k + 1) := by
  rw [List.drop_eq_getElem_cons h]; simp [h]

theorem upto_zero (l : List Int) : Upto l 0 0 := by
  refine ⟨fun _ => ⟨by simp, ?_⟩, fun h => by omega⟩
  cases h : parse 0 l <;> simp [h]

theorem upto_more {l : List Int} {k acc : Nat} (h : Upto l k acc) (hk : k < l.length) (hk10 : k < 10) (hx : 0 ≤ l.getD k 0 ∧ l.getD k 0 < 256) (hge : ¬ l.getD k 0 < 128) : Upto l (k + 1) (nextAcc acc k (l.getD k 0)).toNat := by
  obtain ⟨ha, he⟩ := h.1 (by omega)
  rw [drop_at hk] at he
  generalize l.getD k 0 = x at he hx hge ⊢
  by_cases h9 : k = 9
  · subst h9
    refine ⟨fun h => by omega, fun _ => ?_⟩
    rw [he]
    simp only [parse, show ¬ 10 ≤ 9 by omega, hge, if_false]
    cases hd : l.drop (9 + 1) with
    | nil => simp [parse]
    | cons y r => simp [parse]
  · rw [nextAcc_eq acc k x (by omega) ha hx (fun h => absurd h h9)]
    refine ⟨fun _ => ⟨?_, ?_⟩, fun h => by omega⟩
    · have : (x % 128).toNat < 128 := by omega
      have h1 : 128 ^ k * (x % 128).toNat ≤ 128 ^ k * 127 := Nat.mul_le_mul_left _ (by omega)
      have h2 : (128 : Nat) ^ (k + 1) = 128 ^ k * 128 := Nat.pow_succ _ _
      simp only [Int.toNat_natCast]
      omega
    · rw [he]
      simp only [parse, show ¬ 10 ≤ k by omega, hge, if_false, Option.map_map, Int.toNat_natCast]
      congr 1
      funext q
      simp only [Function.comp, Prod.mk.injEq, and_true]
      have e : (x % 128).toNat = (x - 128).toNat := by omega
      rw [e, Nat.pow_succ, Nat.mul_add, Nat.mul_assoc]
      omega

theorem numAt_end {l : List Int} {k acc : Nat} (h : Upto l k acc) (hk : k < l.length) (hk10 : k < 10) (hx : 0 ≤ l.getD k 0 ∧ l.getD k 0 < 256) (hlt : l.getD k 0 < 128) (he : endsB (l.getD k 0) k = true) :
    numAt l = ((nextAcc acc k (l.getD k 0)).toNat, k + 1) := by
  obtain ⟨ha, hp⟩ := h.1 (by omega)
  rw [drop_at hk] at hp
  have hlen : (l.drop (k + 1)).length = l.length - (k + 1) := List.length_drop
  generalize l.getD k 0 = x at hp hx hlt he ⊢
  have h9 : k = 9 → x % 128 ≤ 1 := by
    rintro rfl
    have : x = 1 := by simpa [endsB] using he
    subst this; decide
  rw [nextAcc_eq acc k x (by omega) ha hx h9]
  unfold numAt
  rw [hp]
  simp only [parse, show ¬ 10 ≤ k by omega, hlt, he, if_true, if_false, Option.map_some, Int.toNat_natCast, hlen]
  have e : (x % 128).toNat = x.toNat := by omega
  rw [e]
  congr 1
  omega

theorem numAt_bad {l : List Int} {k acc : Nat} (h : Upto l k acc) (hk : k < l.length) (hk10 : k < 10) (hlt : l.getD k 0 < 128) (he : endsB (l.getD k 0) k = false) : numAt l = (0, 0) := by
  obtain ⟨_, hp⟩ := h.1 (by omega)
  rw [drop_at hk] at hp
  generalize l.getD k 0 = x at hp hlt he
  unfold numAt
  rw [hp]
  simp [parse, show ¬ 10 ≤ k by omega, hlt, he]

theorem numAt_out {l : List Int} {k acc : Nat} (h : Upto l k acc) (hk : k ≤ l.length) (hn : ¬ (k < l.length ∧ k < 10)) : numAt l = (0, 0) := by
  unfold numAt
  by_cases h10 : 10 ≤ k
  · rw [h.2 h10]
  · have : k = l.length := by omega
    obtain ⟨_, hp⟩ := h.1 (by omega)
    rw [hp, this, List.drop_length]
    simp [parse]

end Go.Proofs.Ytdjfedlkfekeoaa
