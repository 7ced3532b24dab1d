/-
  The plain mathematics of layer 1's forms: the form of a number, and the reading of one; no program is named here.
  Byte slices in memory, over any program: what a slice value reads as (Rd), a row of bytes that the call itself made (Own), and the laws of make, copy and append on them.
-/
import Derived.WalkKit
import Derived.Laws.CopyOwn
namespace Go.Proofs.YthnjbjlhfohpfaaGreat
section
set_option linter.unusedVariables false

/-- The form of a number: seven bits a byte, the lowest first. -/
def formF : Nat → Nat → List Int
  | 0, _ => []
  | f + 1, n => if n < 128 then [(n : Int)] else ((n % 128 : Nat) + 128 : Int) :: formF f (n / 128)
def form (n : Nat) : List Int := formF (n + 1) n

theorem formF_eq : ∀ (f g n : Nat), n < f → n < g → formF f n = formF g n
  | 0, _, _, h, _ => absurd h (Nat.not_lt_zero _)
  | _ + 1, 0, _, _, h => absurd h (Nat.not_lt_zero _)
  | f + 1, g + 1, n, hf, hg => by
    show (if n < 128 then [(n : Int)] else ((n % 128 : Nat) + 128 : Int) :: formF f (n / 128)) = if n < 128 then [(n : Int)] else ((n % 128 : Nat) + 128 : Int) :: formF g (n / 128)
    by_cases h : n < 128
    · rw [if_pos h, if_pos h]
    · rw [if_neg h, if_neg h, formF_eq f g (n / 128) (by omega) (by omega)]
theorem form_lt {n : Nat} (h : n < 128) : form n = [(n : Int)] := if_pos h
theorem form_ge {n : Nat} (h : ¬ n < 128) : form n = ((n % 128 : Nat) + 128 : Int) :: form (n / 128) := by
  have h1 : form n = ((n % 128 : Nat) + 128 : Int) :: formF n (n / 128) := if_neg h
  rw [h1, form, formF_eq n (n / 128 + 1) (n / 128) (by omega) (by omega)]

/-- May a byte x at place i end a form? -/
def endsB (x : Int) (i : Nat) : Bool := if i = 9 then x == 1 else (x != 0 || i == 0)

/-- The number whose form l begins with (from place i of the form on), and what is behind it. -/
def parse : Nat → List Int → Option (Nat × List Int)
  | _, [] => none
  | i, x :: r => if 10 ≤ i then none else if x < 128 then (if endsB x i then some (x.toNat, r) else none) else (parse (i + 1) r).map fun q => ((x - 128).toNat + 128 * q.1, q.2)

/-- Bytes. -/
def Oct (l : List Int) : Prop := ∀ x ∈ l, 0 ≤ x ∧ x < 256

theorem Oct.nil : Oct [] := fun _ h => by cases h
theorem Oct.cons {x : Int} {l : List Int} (h : 0 ≤ x ∧ x < 256) (hl : Oct l) : Oct (x :: l) := fun y hy => by
  rcases List.mem_cons.1 hy with rfl | hy
  · exact h
  · exact hl y hy
theorem Oct.append {a b : List Int} (ha : Oct a) (hb : Oct b) : Oct (a ++ b) := fun x hx => by
  rcases List.mem_append.1 hx with h | h
  · exact ha x h
  · exact hb x h
theorem Oct.of_append {a b : List Int} (h : Oct (a ++ b)) : Oct a ∧ Oct b := ⟨fun x hx => h x (List.mem_append.2 (.inl hx)), fun x hx => h x (List.mem_append.2 (.inr hx))⟩
theorem Oct.drop {l : List Int} (h : Oct l) (k : Nat) : Oct (l.drop k) := fun x hx => h x (List.mem_of_mem_drop hx)
theorem Oct.take {l : List Int} (h : Oct l) (k : Nat) : Oct (l.take k) := fun x hx => h x (List.mem_of_mem_take hx)
theorem Oct.at {l : List Int} (h : Oct l) (j : Nat) : 0 ≤ l.getD j 0 ∧ l.getD j 0 < 256 := by
  rw [List.getD_eq_getElem?_getD]
  rcases Nat.lt_or_ge j l.length with hj | hj
  · rw [List.getElem?_eq_getElem hj]; exact h _ (List.getElem_mem hj)
  · rw [List.getElem?_eq_none hj]; simp

theorem form_oct (n : Nat) : Oct (form n) := by
  induction n using Nat.strongRecOn with
  | _ n ih =>
    by_cases h : n < 128
    · rw [form_lt h]; exact Oct.cons (by omega) Oct.nil
    · rw [form_ge h]; exact Oct.cons (by omega) (ih _ (by omega))

theorem form_pos (n : Nat) : 0 < (form n).length := by
  by_cases h : n < 128
  · rw [form_lt h]; simp
  · rw [form_ge h]; simp

theorem form_length {n : Nat} : ∀ (k : Nat), n < 128 ^ k → 0 < k → (form n).length ≤ k := by
  intro k
  induction k generalizing n with
  | zero => intro _ h; omega
  | succ k ih =>
    intro h _
    by_cases hn : n < 128
    · rw [form_lt hn]; simp
    · rw [form_ge hn]
      rcases Nat.eq_zero_or_pos k with rfl | hk
      · simp at h; omega
      · have := @ih (n / 128) (by rw [Nat.pow_succ] at h; omega) hk
        simp only [List.length_cons]; omega

theorem form_le10 {n : Nat} (h : n < 18446744073709551616) : (form n).length ≤ 10 := form_length 10 (by omega) (by omega)

/-- What was put is read as it was: the bound is what is left of 64 bits at place i. -/
theorem parse_form (n : Nat) : ∀ (i : Nat) (r : List Int), i ≤ 9 → n * 128 ^ i < 18446744073709551616 → (i = 0 ∨ n ≠ 0) → parse i (form n ++ r) = some (n, r) := by
  induction n using Nat.strongRecOn with
  | _ n ih =>
    intro i r hi hb h0
    by_cases h : n < 128
    · rw [form_lt h]
      have he : endsB (n : Int) i = true := by
        unfold endsB
        split
        · rename_i h9; subst h9
          have : n < 2 := by omega
          have : n = 1 := by omega
          subst this; rfl
        · rcases h0 with rfl | h0
          · simp
          · have : ((n : Int) != 0) = true := by simp; omega
            simp [this]
      simp [parse, he, show ¬ 10 ≤ i by omega, show (n : Int) < 128 by omega]
    · rw [form_ge h]
      have hi9 : i ≠ 9 := by
        rintro rfl
        omega
      have hk : n / 128 * 128 ^ (i + 1) < 18446744073709551616 := by
        have e : n / 128 * 128 ^ (i + 1) = n / 128 * 128 * 128 ^ i := by rw [Nat.pow_succ, Nat.mul_assoc, Nat.mul_comm (128 ^ i) 128]
        have : n / 128 * 128 * 128 ^ i ≤ n * 128 ^ i := Nat.mul_le_mul_right _ (Nat.div_mul_le_self n 128)
        omega
      have := ih (n / 128) (by omega) (i + 1) r (by omega) hk (.inr (by omega))
      simp only [List.cons_append, parse, this, show ¬ 10 ≤ i by omega, show ¬ (((n % 128 : Nat) : Int) + 128 < 128) by omega, if_false, Option.map_some]
      congr 2
      omega

/-- What is read has no other form. -/
theorem parse_some : ∀ (l : List Int) (i n : Nat) (r : List Int), Oct l → parse i l = some (n, r) → l = form n ++ r ∧ n * 128 ^ i < 18446744073709551616 ∧ (i = 0 ∨ n ≠ 0) := by
  intro l
  induction l with
  | nil => intro i n r _ h; simp [parse] at h
  | cons x l ih =>
    intro i n r ho h
    have hx := ho x (by simp)
    simp only [parse] at h
    split at h
    · cases h
    · rename_i hi
      split at h
      · rename_i hlt
        split at h
        · rename_i he
          simp only [Option.some.injEq, Prod.mk.injEq] at h
          obtain ⟨rfl, rfl⟩ := h
          have h9 : x.toNat < 128 := by omega
          refine ⟨?_, ?_, ?_⟩
          · rw [form_lt h9]; simp; omega
          · unfold endsB at he
            split at he
            · rename_i e9; subst e9
              have : x = 1 := by simpa using he
              subst this; decide
            · have : i ≤ 8 := by omega
              have hp : 128 ^ i ≤ 128 ^ 8 := Nat.pow_le_pow_right (by omega) this
              have : x.toNat * 128 ^ i ≤ 127 * 128 ^ 8 := Nat.mul_le_mul (by omega) hp
              omega
          · unfold endsB at he
            split at he
            · have : x = 1 := by simpa using he
              subst this; right; decide
            · simp only [Bool.or_eq_true, bne_iff_ne, ne_eq, beq_iff_eq] at he
              rcases he with he | he
              · right; omega
              · left; exact he
        · cases h
      · rename_i hge
        cases hp : parse (i + 1) l with
        | none => rw [hp] at h; cases h
        | some q =>
          obtain ⟨m, s⟩ := q
          rw [hp] at h
          simp only [Option.map_some, Option.some.injEq, Prod.mk.injEq] at h
          obtain ⟨rfl, rfl⟩ := h
          obtain ⟨e, hb, h0⟩ := ih (i + 1) m s (fun y hy => ho y (by simp [hy])) hp
          have hm : m ≠ 0 := by omega
          have hn : ¬ (x - 128).toNat + 128 * m < 128 := by omega
          refine ⟨?_, ?_, .inr (by omega)⟩
          · rw [form_ge hn, show ((x - 128).toNat + 128 * m) / 128 = m by omega, e]
            simp; omega
          · have e1 : m * 128 ^ (i + 1) = 128 * m * 128 ^ i := by rw [Nat.pow_succ]; ac_rfl
            have hi8 : i ≤ 8 := by
              by_cases h9 : i = 9
              · subst h9
                exfalso
                cases l with
                | nil => simp [parse] at hp
                | cons y l => simp [parse] at hp
              · omega
            have hk : ∃ q, 18446744073709551616 = 128 * 128 ^ i * q ∧ m < q := by
              have : (i = 0 ∨ i = 1 ∨ i = 2 ∨ i = 3 ∨ i = 4 ∨ i = 5 ∨ i = 6 ∨ i = 7 ∨ i = 8) := by omega
              rcases this with rfl | rfl | rfl | rfl | rfl | rfl | rfl | rfl | rfl
              · exact ⟨144115188075855872, by decide, by omega⟩
              · exact ⟨1125899906842624, by decide, by omega⟩
              · exact ⟨8796093022208, by decide, by omega⟩
              · exact ⟨68719476736, by decide, by omega⟩
              · exact ⟨536870912, by decide, by omega⟩
              · exact ⟨4194304, by decide, by omega⟩
              · exact ⟨32768, by decide, by omega⟩
              · exact ⟨256, by decide, by omega⟩
              · exact ⟨2, by decide, by omega⟩
            obtain ⟨q, hq, hmq⟩ := hk
            have : (x - 128).toNat + 128 * m < 128 * q := by omega
            calc ((x - 128).toNat + 128 * m) * 128 ^ i < 128 * q * 128 ^ i := Nat.mul_lt_mul_of_pos_right this (Nat.pow_pos (by omega))
              _ = 18446744073709551616 := by rw [hq]; ac_rfl

/-- The number that stands for one that may be below 0, and back. -/
def zig (m : Int) : Nat := if m < 0 then (-2 * m - 1).toNat else (2 * m).toNat
def zag (n : Nat) : Int := if n % 2 = 1 then -((n / 2 : Nat) : Int) - 1 else ((n / 2 : Nat) : Int)
theorem zag_zig (m : Int) : zag (zig m) = m := by unfold zag zig; split <;> split <;> omega
theorem zig_zag (n : Nat) : zig (zag n) = n := by unfold zag zig; split <;> split <;> omega

/-! ### Bits of a byte, and of a number -/

theorem or128_fin : ∀ x : Fin 256, bits .or .u8 (x.val : Int) 128 = (x.val : Int) % 128 + 128 := by decide +kernel
theorem not128_fin : ∀ x : Fin 256, bits .andNot .u8 (x.val : Int) 128 = (x.val : Int) % 128 := by decide +kernel

theorem or128 (x : Int) (h0 : 0 ≤ x) (h1 : x < 256) : bits .or .u8 x 128 = x % 128 + 128 := by
  obtain ⟨a, rfl⟩ := Int.eq_ofNat_of_zero_le h0
  exact or128_fin ⟨a, by omega⟩
theorem not128 (x : Int) (h0 : 0 ≤ x) (h1 : x < 256) : bits .andNot .u8 x 128 = x % 128 := by
  obtain ⟨a, rfl⟩ := Int.eq_ofNat_of_zero_le h0
  exact not128_fin ⟨a, by omega⟩

theorem wraps_u64 (n : Int) (h₀ : 0 ≤ n) (h₁ : n < 2 ^ 64) : IntKind.u64.wrap n = n := by rw [IntKind.wrap_u64]; omega
theorem and1 (x : Int) (h0 : 0 ≤ x) (h1 : x < 2 ^ 64) : bits .and .u64 x 1 = x % 2 := bits_mask .u64 64 (by decide) wraps_u64 1 (by decide) x h0 h1
theorem or1 (x : Int) (h0 : 0 ≤ x) (h1 : x < 2 ^ 64) (h2 : x % 2 = 0) : bits .or .u64 x 1 = x + 1 :=
  bits_join .u64 64 (by decide) wraps_u64 1 x 1 h0 (by simpa using h2) h1 (by decide) (by decide) (by decide)

theorem not64 (m : Int) (hm : -9223372036854775808 ≤ m ∧ m ≤ 9223372036854775807) : bits .xor .i64 (-1) m = -m - 1 := by
  have h1 : BitVec.ofInt 64 (-1) = BitVec.allOnes 64 := by decide
  show IntKind.i64.wrap ((BitVec.ofInt 64 (-1) ^^^ BitVec.ofInt 64 m).toNat : Int) = -m - 1
  rw [h1, BitVec.allOnes_xor, BitVec.toNat_not, BitVec.toNat_ofInt, IntKind.wrap_i64]
  omega
theorem neg_zig (m : Int) (h : m < 0) (hm : -9223372036854775808 ≤ m ∧ m ≤ 9223372036854775807) :
    bits .or .u64 (IntKind.u64.wrap (IntKind.u64.wrap (bits .xor .i64 (if IntKind.i64.signed = true then -1 else 9223372036854775807) m) * 2)) 1 = ((zig m : Nat) : Int) := by
  have e : (if IntKind.i64.signed = true then (-1 : Int) else 9223372036854775807) = -1 := rfl
  rw [e, not64 m hm, IntKind.wrap_u64, IntKind.wrap_u64, or1 _ (by omega) (by omega) (by omega)]
  unfold zig
  rw [if_pos h]
  omega
theorem zig_lt (m : Int) (hm : -9223372036854775808 ≤ m ∧ m ≤ 9223372036854775807) : zig m < 18446744073709551616 := by unfold zig; split <;> omega

/-! ### The loop that reads a number -/

/-- The number that l begins with, and the length of its form; (0, 0): none. -/
def numAt (l : List Int) : Nat × Nat := match parse 0 l with
  | some (n, r) => (n, l.length - r.length)
  | none => (0, 0)

/-- What the loop has of the first k bytes. -/
def Upto (l : List Int) (k acc : Nat) : Prop :=
  (k ≤ 9 → acc < 128 ^ k ∧ parse 0 l = (parse k (l.drop k)).map fun q => (acc + 128 ^ k * q.1, q.2)) ∧ (10 ≤ k → parse 0 l = none)

/-- The number that the loop has behind one round more, as the program reckons it. -/
def nextAcc (acc k : Nat) (x : Int) : Int := bits .or .u64 (acc : Int) (IntKind.u64.wrap (x % 128 * 2 ^ (7 * k)))

theorem nextAcc_nonneg (acc k : Nat) (x : Int) : 0 ≤ nextAcc acc k x := by
  unfold nextAcc bits
  exact wrap_u64_nonneg _

theorem nextAcc_eq (acc k : Nat) (x : Int) (hk : k ≤ 9) (ha : acc < 128 ^ k) (hx : 0 ≤ x ∧ x < 256) (h9 : k = 9 → x % 128 ≤ 1) : nextAcc acc k x = ((acc + 128 ^ k * (x % 128).toNat : Nat) : Int) := by
  obtain ⟨y, hy⟩ := Int.eq_ofNat_of_zero_le (show 0 ≤ x % 128 by omega)
  have hy1 : y < 128 := by omega
  have hy9 : k = 9 → y ≤ 1 := fun h => by have := h9 h; omega
  have hb : y * 2 ^ (7 * k) + 128 ^ k ≤ 2 ^ 64 := by
    have : (k = 0 ∨ k = 1 ∨ k = 2 ∨ k = 3 ∨ k = 4 ∨ k = 5 ∨ k = 6 ∨ k = 7 ∨ k = 8 ∨ k = 9) := by omega
    rcases this with rfl | rfl | rfl | rfl | rfl | rfl | rfl | rfl | rfl | rfl
    all_goals omega
  have hp : (128 : Nat) ^ k = 2 ^ (7 * k) := by rw [Nat.pow_mul]
  have hpos : 0 < 2 ^ (7 * k) := Nat.two_pow_pos _
  have e1 : x % 128 * 2 ^ (7 * k) = ((y * 2 ^ (7 * k) : Nat) : Int) := by rw [hy]; simp
  have hlt : y * 2 ^ (7 * k) < 2 ^ 64 := by omega
  have e2 : IntKind.u64.wrap (x % 128 * 2 ^ (7 * k)) = ((y * 2 ^ (7 * k) : Nat) : Int) := by
    rw [e1]; exact wraps_u64 _ (by omega) (by exact_mod_cast hlt)
  unfold nextAcc
  have hacc : acc < 2 ^ 64 := by omega
  rw [e2, (bits_nat .u64 64 (by decide) wraps_u64 acc (y * 2 ^ (7 * k)) hacc hlt).2]
  have e3 : acc ||| y * 2 ^ (7 * k) = acc + 128 ^ k * (x % 128).toNat := by
    rw [hy, Nat.or_comm, Nat.mul_comm y, ← Nat.two_pow_add_eq_or_of_lt (by omega), hp]
    simp; omega
  rw [e3]

theorem drop_at {l : List Int} {k : Nat} (h : k < l.length) : l.drop k = l.getD k 0 :: l.drop (k + 1) := by
  rw [List.drop_eq_getElem_cons h]; simp [h]

theorem upto_zero (l : List Int) : Upto l 0 0 := by
  refine ⟨fun _ => ⟨by simp, ?_⟩, fun h => by omega⟩
  cases h : parse 0 l <;> simp [h]

theorem upto_more {l : List Int} {k acc : Nat} (h : Upto l k acc) (hk : k < l.length) (hk10 : k < 10) (hx : 0 ≤ l.getD k 0 ∧ l.getD k 0 < 256) (hge : ¬ l.getD k 0 < 128) : Upto l (k + 1) (nextAcc acc k (l.getD k 0)).toNat := by
  obtain ⟨ha, he⟩ := h.1 (by omega)
  rw [drop_at hk] at he
  generalize l.getD k 0 = x at he hx hge ⊢
  by_cases h9 : k = 9
  · subst h9
    refine ⟨fun h => by omega, fun _ => ?_⟩
    rw [he]
    simp only [parse, show ¬ 10 ≤ 9 by omega, hge, if_false]
    cases hd : l.drop (9 + 1) with
    | nil => simp [parse]
    | cons y r => simp [parse]
  · rw [nextAcc_eq acc k x (by omega) ha hx (fun h => absurd h h9)]
    refine ⟨fun _ => ⟨?_, ?_⟩, fun h => by omega⟩
    · have : (x % 128).toNat < 128 := by omega
      have h1 : 128 ^ k * (x % 128).toNat ≤ 128 ^ k * 127 := Nat.mul_le_mul_left _ (by omega)
      have h2 : (128 : Nat) ^ (k + 1) = 128 ^ k * 128 := Nat.pow_succ _ _
      simp only [Int.toNat_natCast]
      omega
    · rw [he]
      simp only [parse, show ¬ 10 ≤ k by omega, hge, if_false, Option.map_map, Int.toNat_natCast]
      congr 1
      funext q
      simp only [Function.comp, Prod.mk.injEq, and_true]
      have e : (x % 128).toNat = (x - 128).toNat := by omega
      rw [e, Nat.pow_succ, Nat.mul_add, Nat.mul_assoc]
      omega

theorem numAt_end {l : List Int} {k acc : Nat} (h : Upto l k acc) (hk : k < l.length) (hk10 : k < 10) (hx : 0 ≤ l.getD k 0 ∧ l.getD k 0 < 256) (hlt : l.getD k 0 < 128) (he : endsB (l.getD k 0) k = true) :
    numAt l = ((nextAcc acc k (l.getD k 0)).toNat, k + 1) := by
  obtain ⟨ha, hp⟩ := h.1 (by omega)
  rw [drop_at hk] at hp
  have hlen : (l.drop (k + 1)).length = l.length - (k + 1) := List.length_drop
  generalize l.getD k 0 = x at hp hx hlt he ⊢
  have h9 : k = 9 → x % 128 ≤ 1 := by
    rintro rfl
    have : x = 1 := by simpa [endsB] using he
    subst this; decide
  rw [nextAcc_eq acc k x (by omega) ha hx h9]
  unfold numAt
  rw [hp]
  simp only [parse, show ¬ 10 ≤ k by omega, hlt, he, if_true, if_false, Option.map_some, Int.toNat_natCast, hlen]
  have e : (x % 128).toNat = x.toNat := by omega
  rw [e]
  congr 1
  omega

theorem numAt_bad {l : List Int} {k acc : Nat} (h : Upto l k acc) (hk : k < l.length) (hk10 : k < 10) (hlt : l.getD k 0 < 128) (he : endsB (l.getD k 0) k = false) : numAt l = (0, 0) := by
  obtain ⟨_, hp⟩ := h.1 (by omega)
  rw [drop_at hk] at hp
  generalize l.getD k 0 = x at hp hlt he
  unfold numAt
  rw [hp]
  simp [parse, show ¬ 10 ≤ k by omega, hlt, he]

theorem numAt_out {l : List Int} {k acc : Nat} (h : Upto l k acc) (hk : k ≤ l.length) (hn : ¬ (k < l.length ∧ k < 10)) : numAt l = (0, 0) := by
  unfold numAt
  by_cases h10 : 10 ≤ k
  · rw [h.2 h10]
  · have : k = l.length := by omega
    obtain ⟨_, hp⟩ := h.1 (by omega)
    rw [hp, this, List.drop_length]
    simp [parse]
end

section
set_option linter.unusedVariables false
open Go.RowKit

/-- The cells of bytes. -/
def cs8 (l : List Int) : List Value := l.map (Value.int .u8)
theorem cs8_length (l : List Int) : (cs8 l).length = l.length := by simp [cs8]
theorem cs8_append (a b : List Int) : cs8 (a ++ b) = cs8 a ++ cs8 b := by simp [cs8]
theorem cs8_one (l : List Int) : ∀ u ∈ cs8 l, u.oneCell' = true := ints_oneCell .u8 l
theorem cs8_at (l : List Int) (j : Nat) (h : j < l.length) : (cs8 l)[j]? = some (.int .u8 (l.getD j 0)) := by
  simp [cs8, h]
theorem cs8_some {l : List Int} {j : Nat} {u : Value} (h : (cs8 l)[j]? = some u) : j < l.length ∧ u = .int .u8 (l.getD j 0) := by
  have hj : j < l.length := by have := (List.getElem?_eq_some_iff.1 h).1; simpa [cs8] using this
  rw [cs8_at l j hj] at h
  exact ⟨hj, (Option.some.inj h).symm⟩

/-- The slice value v reads as the bytes l in the world w. -/
def Rd (w : World) (v : Value) (l : List Int) : Prop :=
  Oct l ∧ ∃ (a : Option Addr) (cap : Nat), v = .slice a l.length cap ∧ l.length ≤ cap ∧ cap ≤ maxLen ∧ (a = none → cap = 0) ∧
    (0 < l.length → ∃ b off, a = some ⟨b, off, none⟩ ∧ ∀ j, j < l.length → w.cell? ⟨b, off + j, none⟩ = some (.int .u8 (l.getD j 0)))

/-- A row of bytes that the call itself made (blocks from B on), of which v shows the first ones, l. -/
def Own (B : Nat) (e : TypeId) (w : World) (v : Value) (l : List Int) : Prop := Oct l ∧ w.ownsRow B e 1 v l.length (cs8 l)

theorem rd_nil (w : World) : Rd w (.slice none 0 0) [] := ⟨Oct.nil, none, 0, rfl, Nat.le_refl _, Nat.zero_le _, fun _ => rfl, fun h => by simp at h⟩
theorem Rd.oct {w : World} {v : Value} {l : List Int} (h : Rd w v l) : Oct l := h.1
theorem own_nil (B : Nat) (e : TypeId) (w : World) : Own B e w (.slice none 0 0) [] := ⟨Oct.nil, World.ownsRow_nil _ _ _ _⟩

theorem Own.rd {B : Nat} {e : TypeId} {w : World} {v : Value} {l : List Int} (h : Own B e w v l) : Rd w v l := by
  obtain ⟨ho, h1, h2⟩ := h
  refine ⟨ho, ?_⟩
  rcases h2 with ⟨rfl, hn⟩ | ⟨g, cap, cur, rfl, hb, hg, hn, hc, hs, ht⟩
  · have : l = [] := List.eq_nil_of_length_eq_zero hn
    subst this
    exact ⟨none, 0, rfl, Nat.le_refl _, Nat.zero_le _, fun _ => rfl, fun h => by simp at h⟩
  · refine ⟨some ⟨g, 0, none⟩, cap, rfl, hn, hc, (fun h => by cases h), fun _ => ⟨g, 0, rfl, fun j hj => ?_⟩⟩
    have := World.ownsRow.cells (w := w) (base := B) (e := e) (size := 1) (v := .slice (some ⟨g, 0, none⟩) l.length cap) (n := l.length) (xs := cs8 l) ⟨h1, .inr ⟨g, cap, cur, rfl, hb, hg, hn, hc, hs, ht⟩⟩ (g := g) rfl j _ (cs8_at l j hj)
    rw [Addr.add_lit] at this
    exact this

theorem grown_trans {w w1 w2 : World} {r1 r2 : Option Nat} (h1 : w.grownBy w1 r1) (h2 : w1.grownBy w2 r2) (h : ∀ k, r2 = some k → r1 = some k ∨ w.heap.size ≤ k) : w.grownBy w2 r1 :=
  ⟨h2.os.trans h1.os, h2.tape.trans h1.tape, h2.output.trans h1.output, Nat.le_trans h1.size h2.size, fun k hk hne => (h2.block k (Nat.lt_of_lt_of_le hk h1.size) (fun e => by
    rcases h k e.symm with r | r
    · exact hne r.symm
    · omega)).trans (h1.block k hk hne)⟩

theorem grown_none {w w1 w2 : World} {r : Option Nat} (h1 : w.grownBy w1 none) (h2 : w1.grownBy w2 r) : w.grownBy w2 r :=
  ⟨h2.os.trans h1.os, h2.tape.trans h1.tape, h2.output.trans h1.output, Nat.le_trans h1.size h2.size, fun k hk hne => (h2.block k (Nat.lt_of_lt_of_le hk h1.size) hne).trans (h1.block k hk (by simp))⟩

theorem grown_refl (w : World) (r : Option Nat) : w.grownBy w r := ⟨rfl, rfl, rfl, Nat.le_refl _, fun _ _ _ => rfl⟩
theorem below_grown {w w' : World} (h : Below w.heap.size w w') : w.grownBy w' none := ⟨h.os, h.tape, h.output, h.size, fun k hk _ => h.block k hk⟩
theorem grown_below {w w' : World} (h : w.grownBy w' none) : Below w.heap.size w w' := ⟨h.os, h.tape, h.output, h.size, fun k hk => h.block k hk (by simp)⟩

theorem bnext {w0 w w' : World} (h : Below w0.heap.size w0 w) (h2 : Below w.heap.size w w') : Below w0.heap.size w0 w' := h.trans (h2.mono h.size)
theorem balloc {w0 w : World} (h : Below w0.heap.size w0 w) (o : Obj) : Below w0.heap.size w0 (w.alloc o) := h.alloc h.size o
theorem bgrown {w0 w w' : World} {b : Nat} (h : Below w0.heap.size w0 w) (hb : w0.heap.size ≤ b) (hg : w.grownBy w' (some b)) : Below w0.heap.size w0 w' := h.grown hg h.size fun k hk => by cases hk; exact hb
theorem bgrown0 {w0 w w' : World} (h : Below w0.heap.size w0 w) (hg : w.grownBy w' none) : Below w0.heap.size w0 w' := bnext h (grown_below hg)

/-- What is read stays so while other blocks are written. -/
theorem Rd.kept {w w' : World} {v : Value} {l : List Int} {r : Option Nat} (h : Rd w v l) (hg : w.grownBy w' r) (hne : ∀ k, r = some k → v.ownBlock ≠ some k) : Rd w' v l := by
  obtain ⟨ho, a, cap, rfl, h1, h2, h3, h4⟩ := h
  refine ⟨ho, a, cap, rfl, h1, h2, h3, fun hp => ?_⟩
  obtain ⟨b, off, rfl, hc⟩ := h4 hp
  refine ⟨b, off, rfl, fun j hj => ?_⟩
  refine hg.cell (hc j hj) fun e => ?_
  exact hne b e.symm rfl

theorem Rd.kept0 {w w' : World} {v : Value} {l : List Int} (h : Rd w v l) (hg : w.grownBy w' none) : Rd w' v l := h.kept hg fun k e => by cases e
theorem Rd.below {w w' : World} {v : Value} {l : List Int} (h : Rd w v l) (hg : Below w.heap.size w w') : Rd w' v l := h.kept0 (below_grown hg)

theorem Rd.len {w : World} {v : Value} {l : List Int} (h : Rd w v l) : ∃ a cap, v = .slice a l.length cap := ⟨h.2.choose, h.2.choose_spec.choose, h.2.choose_spec.choose_spec.1⟩

theorem rd_one (w : World) (x : Int) (e : TypeId) (hx : 0 ≤ x ∧ x < 256) : Rd (w.alloc (.cells #[.int .u8 x] e)) (.slice (some ⟨w.heap.size, 0, none⟩) 1 1) [x] := by
  refine ⟨Oct.cons hx Oct.nil, some ⟨w.heap.size, 0, none⟩, 1, rfl, Nat.le_refl _, by unfold maxLen; omega, (fun h => by cases h), fun _ => ⟨w.heap.size, 0, rfl, fun j hj => ?_⟩⟩
  have : j = 0 := by simp at hj; omega
  subst this
  simp

theorem rd_two (w : World) (x y : Int) (e : TypeId) (hx : 0 ≤ x ∧ x < 256) (hy : 0 ≤ y ∧ y < 256) : Rd (w.alloc (.cells #[.int .u8 x, .int .u8 y] e)) (.slice (some ⟨w.heap.size, 0, none⟩) 2 2) [x, y] := by
  refine ⟨Oct.cons hx (Oct.cons hy Oct.nil), some ⟨w.heap.size, 0, none⟩, 2, rfl, Nat.le_refl _, by unfold maxLen; omega, (fun h => by cases h), fun _ => ⟨w.heap.size, 0, rfl, fun j hj => ?_⟩⟩
  have : j = 0 ∨ j = 1 := by simp at hj; omega
  rcases this with rfl | rfl <;> simp

theorem Own.alloc {B : Nat} {e : TypeId} {w : World} {v : Value} {l : List Int} (h : Own B e w v l) (o : Obj) : Own B e (w.alloc o) v l := ⟨h.1, h.2.alloc o⟩

/-- Behind an append onto an own row nothing old has turned. -/
theorem Own.below {B : Nat} {e : TypeId} {w0 w w' : World} {v : Value} {l : List Int} (h : Own B e w v l) (hb : Below B w0 w) (hB : B ≤ w0.heap.size) (hg : w.grownBy w' v.ownBlock) : Below B w0 w' :=
  hb.grown hg (Nat.le_trans hB hb.size) fun k hk => (h.2.lt k hk).1

/-- v[s:], as the walk writes it. -/
theorem rd_cut {w : World} {a : Option Addr} {cap s : Nat} {l : List Int} (h : Rd w (.slice a l.length cap) l) (hs : s ≤ l.length) (hne : ¬ cap = s) : Rd w (.slice (Option.map (fun x => x.add s) a) (l.length - s) (cap - s)) (l.drop s) := by
  obtain ⟨ho, a', cap', e, h1, h2, h3, h4⟩ := h
  obtain ⟨rfl, rfl⟩ : a = a' ∧ cap = cap' := by simpa using e
  refine ⟨ho.drop s, _, cap - s, by rw [List.length_drop], by rw [List.length_drop]; omega, by omega, fun hn => ?_, fun hp => ?_⟩
  · have := h3 (by simpa using hn)
    omega
  · rw [List.length_drop] at hp
    obtain ⟨b, off, rfl, hc⟩ := h4 (by omega)
    refine ⟨b, off + s, by rw [Option.map_some, Addr.add_lit], fun j hj => ?_⟩
    rw [List.length_drop] at hj
    rw [Nat.add_assoc, hc (s + j) (by omega)]
    simp [List.getD_eq_getElem?_getD]

theorem rd_cut0 {w : World} {a : Option Addr} {s : Nat} {l : List Int} (h : Rd w (.slice a l.length s) l) (hs : s ≤ l.length) : Rd w (.slice a (l.length - s) 0) (l.drop s) := by
  obtain ⟨ho, a', cap', e, h1, h2, h3, h4⟩ := h
  obtain ⟨rfl, rfl⟩ : a = a' ∧ s = cap' := by simpa using e
  have hl : l.length = s := by omega
  have : l.drop s = [] := List.drop_eq_nil_of_le (by omega)
  rw [this]
  exact ⟨Oct.nil, a, 0, by rw [hl]; simp, by simp, by omega, fun _ => rfl, fun hp => by simp at hp⟩

/-- v[:s]. -/
theorem rd_head {w : World} {a : Option Addr} {cap s : Nat} {l : List Int} (h : Rd w (.slice a l.length cap) l) (hs : s ≤ l.length) : Rd w (.slice a s cap) (l.take s) := by
  obtain ⟨ho, a', cap', e, h1, h2, h3, h4⟩ := h
  obtain ⟨rfl, rfl⟩ : a = a' ∧ cap = cap' := by simpa using e
  have hl : (l.take s).length = s := by rw [List.length_take]; omega
  refine ⟨ho.take s, a, cap, by rw [hl], by omega, h2, h3, fun hp => ?_⟩
  obtain ⟨b, off, rfl, hc⟩ := h4 (by omega)
  refine ⟨b, off, rfl, fun j hj => ?_⟩
  rw [hl] at hj
  rw [hc j (by omega), List.getD_eq_getElem?_getD, List.getD_eq_getElem?_getD, List.getElem?_take, if_pos hj]

theorem Rd.cap {w : World} {a : Option Addr} {n cap : Nat} {l : List Int} (h : Rd w (.slice a n cap) l) : n = l.length ∧ n ≤ cap ∧ cap ≤ 9223372036854775807 := by
  obtain ⟨ho, a', cap', e, h1, h2, h3, h4⟩ := h
  obtain ⟨rfl, rfl, rfl⟩ : a = a' ∧ n = l.length ∧ cap = cap' := by simpa using e
  exact ⟨rfl, h1, by unfold maxLen at h2; omega⟩

/-- The type of bytes, and of slices of them, in a program's table. -/
structure ByteTy (P : Program) (t e : TypeId) : Prop where
  under : P.underlying t = some (.slice e)
  info : (P.info? e).map (fun i => (i.zero, i.size, i.bytes)) = some (some (.int .u8 0), 1, 1)

theorem ByteTy.size {P : Program} {t e : TypeId} (h : ByteTy P t e) : (P.info? e).map (·.size) = some 1 := by
  obtain ⟨i, hi, _, h1, _⟩ := info_parts h.info
  simp [hi, h1]

section
variable {P : Program} {w : World} {ops : Array Oper} {rest : List Oper} {o : Oper} {a : Act} {Q : Exit → Act → World → Prop}

/-- 'make([]byte, L, C)'. -/
theorem wpList_make_bytes (t e : TypeId) (hT : ByteTy P t e) (hg : o.guard = none) (l c : Operand) (hop : o.op = Op.makeSlice t l c)
    (kl kc : IntKind) (L' C' : Int) (L C : Nat) (hl : a.eval l = .int kl L') (hc : a.eval c = .int kc C') (hL : L' = (L : Int)) (hC : C' = (C : Int)) (hLC : L ≤ C) (b2 : C ≤ 281474976710656)
    (h : wpList P ops Q rest (a.put o.dst (.slice (some ⟨w.heap.size, 0, none⟩) L C)) (w.alloc (.cells (cs8 (List.replicate C 0)).toArray e))) : wpList P ops Q (o :: rest) a w := by
  subst hL
  subst hC
  refine wpList_plain hg fun K hK' => ?_
  obtain ⟨i, hi, hz, h1, h2⟩ := info_parts hT.info
  have hrun := run_make (P := P) w t e i (.int .u8 0) hT.under hi hz kl kc (L : Int) (C : Int) (by omega) (by omega) (by rw [h2]; omega) (by omega)
  have e1 : madeCells (Value.int .u8 0).cells ((C : Int).toNat * i.size) = (cs8 (List.replicate C 0)).toArray := by
    rw [h1]
    apply Array.ext
    · simp [size_madeCells, cs8]
    · intro k h1 h2
      simp [madeCells, cs8, Value.cells, Nat.mod_one]
  rw [e1] at hrun
  unfold Oper.wp
  simp [execOp, hop, hl, hc, hrun, Result.andThen]
  exact hK' _ _ h

/-- 'copy(out, b)' into a row just made, as long as b, with room behind. -/
theorem wpList_copy_bytes (t e : TypeId) (hT : ByteTy P t e) (hgd : o.guard = none) (d s : Operand)
    (ho : o.op = .call { callee := .builtin .copy, args := #[d, s], argTypes := #[t, t] })
    (w0 : World) (x : Value) (l : List Int) (C : Nat) (hd : a.eval d = .slice (some ⟨w0.heap.size, 0, none⟩) l.length C) (hs : a.eval s = x)
    (hw : w = w0.alloc (.cells (cs8 (List.replicate C 0)).toArray e)) (hx : Rd w0 x l) (hC : l.length ≤ C) (hm : C ≤ maxLen)
    (h : ∀ w', Own w0.heap.size e w' (.slice (some ⟨w0.heap.size, 0, none⟩) l.length C) l → Below w0.heap.size w0 w' → wpList P ops Q rest (a.put o.dst (goInt l.length)) w') :
    wpList P ops Q (o :: rest) a w := by
  have hx' : Rd w x l := by rw [hw]; exact hx.kept0 (World.grownBy_alloc w0 _ none)
  obtain ⟨hoct, sp, cap, rfl, h1, h2, h3, h4⟩ := hx'
  have hheap : w.heap[w0.heap.size]? = some (.cells (cs8 (List.replicate C 0)).toArray e (0, 0)) := by rw [hw]; exact heap_alloc_new w0 _
  have hsz : (cs8 l).length = Nat.min l.length l.length := by
    show (cs8 l).length = min l.length l.length
    rw [cs8_length, Nat.min_self]
  refine wpList_copy_splice hgd d s t t ho e hT.under hT.size (some ⟨w0.heap.size, 0, none⟩) sp l.length C l.length cap hd hs w0.heap.size 0 (cs8 (List.replicate C 0)) e hheap (cs8 l) hsz
    (fun hp => ⟨rfl, ?_⟩) (by simp [cs8]; exact hC) (cs8_one l) w0.heap.size w0 (by rw [hw]; exact (Below.refl _ _).alloc (Nat.le_refl _) _) (Nat.le_refl _) ?_
  · obtain ⟨b, off, rfl, hc⟩ := h4 (by simpa [cs8] using hp)
    refine ⟨_, rfl, fun j u hu => ?_⟩
    obtain ⟨hj, rfl⟩ := cs8_some hu
    rw [Addr.add_lit]
    exact hc j hj
  · intro w' hrow hb
    have e1 : (cs8 l).length = l.length := cs8_length l
    rw [e1]
    refine h w' ⟨hoct, ?_⟩ hb
    refine ⟨by simp [cs8], .inr ⟨w0.heap.size, C, _, rfl, Nat.le_refl _, hrow.out, hC, hm, ?_, ?_⟩⟩
    · simp [splice, cs8]; omega
    · simp [splice, cs8]

/-- 'append(out, x)' of one byte that lies in a new block, onto a row that the call made. -/
theorem wpList_append_cells (t e : TypeId) (hT : ByteTy P t e) (hgd : o.guard = none) (s x : Operand)
    (ho : o.op = .call { callee := .builtin .append, args := #[s, x], argTypes := #[t, t] })
    (B : Nat) (v : Value) (l : List Int) (hs : a.eval s = v) (hown : Own B e w v l)
    (y : Value) (m : List Int) (hx : a.eval x = y) (hm : Rd w y m) (hlen : l.length + m.length ≤ 140737488355328) (hbase : B ≤ w.heap.size)
    (h : ∀ v' w', Own B e w' v' (l ++ m) → w.grownBy w' v.ownBlock → wpList P ops Q rest (a.put o.dst v') w') : wpList P ops Q (o :: rest) a w := by
  obtain ⟨hoct, ad, c, rfl, h1, h2, h3, h4⟩ := hm
  obtain ⟨i, hi, hz, hs1, hs2⟩ := info_parts hT.info
  have hmax : l.length + m.length ≤ maxLen := by unfold maxLen; omega
  rcases Nat.eq_zero_or_pos m.length with h0 | hp
  · have : m = [] := List.eq_nil_of_length_eq_zero h0
    subst this
    cases ad with
    | none =>
      have := h3 rfl
      subst this
      have hrun := run_append_owned_none (P := P) w B t o.type e i 1 hT.under hi v _ _ hown.2
      refine wpList_plain hgd fun K hK => ?_
      unfold Oper.wp
      simp [execOp, ho, resolve, invoke, builtin, hs, hx, hrun, Result.andThen]
      exact hK _ _ (h v w (by simpa using hown) (grown_refl _ _))
    | some ad =>
      refine wpList_append_own w hgd s x t ho B e i (.int .u8 0) 1 1 hT.under hi hz hs1 hs2 rfl (by decide) v l.length (cs8 l) hs hown.2 ad 0 c [] hx (by simp) (fun j u hu => by simp at hu) (fun u hu => by cases hu)
        (by simpa using hmax) (by simpa using hlen) hbase ?_
      intro v' w' ho' hg _
      exact h v' w' ⟨by simpa using hown.1, by simpa using ho'⟩ hg
  · obtain ⟨b, off, rfl, hc⟩ := h4 hp
    refine wpList_append_own w hgd s x t ho B e i (.int .u8 0) 1 1 hT.under hi hz hs1 hs2 rfl (by decide) v l.length (cs8 l) hs hown.2 ⟨b, off, none⟩ m.length c (cs8 m) hx (by simp [cs8]) (fun j u hu => ?_) (cs8_one m)
        hmax (by omega) hbase ?_
    · obtain ⟨hj, rfl⟩ := cs8_some hu
      rw [Addr.add_lit]
      exact hc j hj
    · intro v' w' ho' hg _
      refine h v' w' ⟨hown.1.append hoct, ?_⟩ hg
      rw [cs8_append, List.length_append]
      exact ho'
end
end
end Go.Proofs.YthnjbjlhfohpfaaGreat
