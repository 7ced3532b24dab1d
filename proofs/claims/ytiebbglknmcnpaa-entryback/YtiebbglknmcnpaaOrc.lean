/-
  The oracle of layer 3 by plain lists: draws, and rows of handles with what stands behind each; fresh handles; what each call answers.
-/
import Derived.Test.YtiebbglknmcnpaaClass
namespace Go.Proofs.Ytiebbglknmcnpaa
set_option linter.unusedVariables false
set_option synthInstance.maxSize 20000

/-- A number that a uint64 holds. -/
def U64 (x : Int) : Prop := 0 ≤ x ∧ x < 18446744073709551616

/-- What stands behind a handle. -/
abbrev What := (List Int ⊕ Bool) ⊕ ((Int ⊕ Int × List Int) ⊕ (Int × List Int × List Int ⊕ Int × Int × Int))
abbrev What.hash (b : List Int) : What := Sum.inl (Sum.inl b)
abbrev What.key : What := Sum.inl (Sum.inr false)
abbrev What.secret : What := Sum.inl (Sum.inr true)
abbrev What.pub (s : Int) : What := Sum.inr (Sum.inl (Sum.inl s))
abbrev What.sig (s : Int) (b : List Int) : What := Sum.inr (Sum.inl (Sum.inr (s, b)))
/-- A sealed text: its key, what it is bound to, its plain text. -/
abbrev What.seal (k : Int) (bound plain : List Int) : What := Sum.inr (Sum.inr (Sum.inl (k, bound, plain)))
/-- A wrapped key: the secret that unwraps it, the key, the public handle. -/
abbrev What.wrap (s k p : Int) : What := Sum.inr (Sum.inr (Sum.inr (s, k, p)))
theorem What.each {motive : What → Prop} (hash : ∀ b, motive (What.hash b)) (key : motive What.key) (secret : motive What.secret) (pub : ∀ s, motive (What.pub s)) (sig : ∀ s b, motive (What.sig s b))
    (sealed : ∀ k b p, motive (What.seal k b p)) (wrap : ∀ s k p, motive (What.wrap s k p)) : ∀ x, motive x
  | Sum.inl (Sum.inl b) => hash b
  | Sum.inl (Sum.inr false) => key
  | Sum.inl (Sum.inr true) => secret
  | Sum.inr (Sum.inl (Sum.inl s)) => pub s
  | Sum.inr (Sum.inl (Sum.inr (s, b))) => sig s b
  | Sum.inr (Sum.inr (Sum.inl (k, b, p))) => sealed k b p
  | Sum.inr (Sum.inr (Sum.inr (s, k, p))) => wrap s k p
theorem What.hash.injEq (a b : List Int) : (What.hash a = What.hash b) = (a = b) := by simp
theorem What.sig.injEq (s : Int) (a : List Int) (t : Int) (b : List Int) : (What.sig s a = What.sig t b) = (s = t ∧ a = b) := by simp

/-- Draws that are still to come, and all that was handed out. -/
structure St where
  draws : List Int
  rows : List (Int × What)

def St.us (S : St) : List Int := S.rows.map (·.1)
/-- What stands behind h. -/
def St.at (S : St) (h : Int) : Option What := (S.rows.find? (fun r => r.1 == h)).map (·.2)
/-- The handle of a thing. -/
def St.of (S : St) (x : What) : Option Int := (S.rows.find? (fun r => decide (r.2 = x))).map (·.1)

/-! ### fresh handles -/

theorem pigeon : ∀ (m : Nat) (l : List Int), (∀ i : Int, 1 ≤ i → i ≤ m → i ∈ l) → m ≤ l.length
  | 0, _, _ => Nat.zero_le _
  | m + 1, l, h => by
    have hm : ((m + 1 : Nat) : Int) ∈ l := h _ (by omega) (by omega)
    have := pigeon m (l.erase ((m + 1 : Nat) : Int)) (fun i h1 h2 => (List.mem_erase_of_ne (by omega)).2 (h i h1 (by omega)))
    rw [List.length_erase_of_mem hm] at this
    have := List.length_pos_of_mem hm
    omega

/-- The least number from 1 on that is not among us. -/
def leastFree (us : List Int) : Int := match (List.range (us.length + 1)).find? (fun i : Nat => decide ¬ ((i : Int) + 1 ∈ us)) with
  | some i => (i : Int) + 1
  | none => 0

theorem leastFree_spec (us : List Int) : 1 ≤ leastFree us ∧ leastFree us ≤ us.length + 1 ∧ leastFree us ∉ us ∧ ∀ i, 1 ≤ i → i < leastFree us → i ∈ us := by
  unfold leastFree
  cases h : (List.range (us.length + 1)).find? (fun i : Nat => decide ¬ ((i : Int) + 1 ∈ us)) with
  | none =>
    exfalso
    rw [List.find?_eq_none] at h
    have := pigeon (us.length + 1) us (fun i h1 h2 => by
      have := h (i.toNat - 1) (List.mem_range.2 (by omega))
      simp at this
      have e : ((i.toNat - 1 : Nat) : Int) + 1 = i := by omega
      rwa [e] at this)
    omega
  | some i =>
    rw [List.find?_range_eq_some] at h
    obtain ⟨h1, h2, h3⟩ := h
    simp at h1 h2
    refine ⟨by simp only; omega, by simp only; omega, h1, fun j hj1 hj2 => ?_⟩
    simp only at hj2
    have := h3 (j.toNat - 1) (by omega)
    simp at this
    have e : ((j.toNat - 1 : Nat) : Int) + 1 = j := by omega
    rwa [e] at this

theorem leastFree_one {us : List Int} {n : Int} (h1 : 1 ≤ n) (h2 : n ∉ us) (h3 : ∀ i, 1 ≤ i → i < n → i ∈ us) : leastFree us = n := by
  obtain ⟨g1, g2, g3, g4⟩ := leastFree_spec us
  rcases Int.lt_trichotomy (leastFree us) n with h | h | h
  · exact absurd (h3 _ g1 h) g3
  · exact h
  · exact absurd (g4 _ h1 h) h2

/-- A fresh handle, and the draws behind it. -/
def freshOf (us : List Int) : List Int → Int × List Int
  | [] => (leastFree us, [])
  | d :: ds => if d = 0 ∨ d ∈ us then freshOf us ds else (d, ds)

theorem freshOf_spec (us : List Int) : ∀ ds, (∀ d ∈ ds, U64 d) → us.length < 1000000000000 → (freshOf us ds).1 ≠ 0 ∧ (freshOf us ds).1 ∉ us ∧ U64 (freshOf us ds).1 ∧ (∀ d ∈ (freshOf us ds).2, U64 d) ∧ (freshOf us ds).2.length ≤ ds.length
  | [], _, hl => by
    obtain ⟨g1, g2, g3, _⟩ := leastFree_spec us
    exact ⟨by simp [freshOf]; omega, g3, by simp [freshOf, U64]; omega, (fun d h => by simp [freshOf] at h), Nat.le_refl _⟩
  | d :: ds, hd, hl => by
    unfold freshOf
    split
    · obtain ⟨a, b, c, e, f⟩ := freshOf_spec us ds (fun x hx => hd x (List.mem_cons_of_mem _ hx)) hl
      exact ⟨a, b, c, e, by simp; omega⟩
    · rename_i h
      exact ⟨fun e => h (.inl e), fun e => h (.inr e), hd d (by simp), fun x hx => hd x (List.mem_cons_of_mem _ hx), by simp⟩

/-! ### the calls -/

def St.fresh (S : St) : Int := (freshOf S.us S.draws).1
/-- A new row with a fresh handle. -/
def St.put (S : St) (x : What) : St := ⟨(freshOf S.us S.draws).2, S.rows ++ [(S.fresh, x)]⟩
/-- The handle of x, and the oracle behind the call. -/
def St.get (S : St) (x : What) : Int × St := match S.of x with
  | some h => (h, S)
  | none => (S.fresh, S.put x)

/-- A handle in eight bytes, the highest first. -/
def be8 (h : Int) : List Int := [h / 72057594037927936 % 256, h / 281474976710656 % 256, h / 1099511627776 % 256, h / 4294967296 % 256, h / 16777216 % 256, h / 65536 % 256, h / 256 % 256, h % 256]
/-- The handle that bytes begin with. -/
def ofBe8 (l : List Int) : Int := (l.take 8).foldl (fun n x => n * 256 + x) 0
theorem be8_length (h : Int) : (be8 h).length = 8 := rfl
theorem be8_oct (h : Int) : Oct (be8 h) := fun x hx => by simp [be8] at hx; omega
theorem ofBe8_be8 (h : Int) (l : List Int) (hh : U64 h) : ofBe8 (be8 h ++ l) = h := by
  unfold U64 at hh
  simp [ofBe8, be8]
  omega
theorem ofBe8_U64 (l : List Int) (ho : Oct l) : U64 (ofBe8 l) := by
  have key : ∀ (m : List Int) (n : Int) (j : Nat), Oct m → 0 ≤ n → n < 256 ^ j → 0 ≤ m.foldl (fun n x => n * 256 + x) n ∧ m.foldl (fun n x => n * 256 + x) n < 256 ^ (j + m.length) := by
    intro m
    induction m with
    | nil => intro n j _ h1 h2; simpa using ⟨h1, h2⟩
    | cons x m ih =>
      intro n j ho h1 h2
      have hx := ho x (by simp)
      have e1 : (256 : Int) ^ (j + 1) = 256 ^ j * 256 := by rw [Int.pow_succ]
      have := ih (n * 256 + x) (j + 1) (fun y hy => ho y (List.mem_cons_of_mem _ hy)) (by omega) (by omega)
      simp only [List.foldl_cons, List.length_cons]
      rw [show j + (m.length + 1) = j + 1 + m.length by omega]
      exact this
  have := key (l.take 8) 0 0 (ho.take 8) (by omega) (by decide)
  have hl : (l.take 8).length ≤ 8 := by simp; omega
  have hp : (256 : Int) ^ (0 + (l.take 8).length) ≤ 256 ^ 8 := by
    have : (256 : Nat) ^ (0 + (l.take 8).length) ≤ 256 ^ 8 := Nat.pow_le_pow_right (by omega) (by omega)
    have h3 := Int.ofNat_le.2 this
    rw [Int.natCast_pow, Int.natCast_pow] at h3
    exact h3
  unfold U64 ofBe8
  have e : (256 : Int) ^ 8 = 18446744073709551616 := by decide
  omega
theorem be8_ofBe8 {l : List Int} (ho : Oct l) (hl : 8 ≤ l.length) : be8 (ofBe8 l) = l.take 8 := by
  match l, hl with
  | a :: b :: c :: d :: e :: f :: g :: h :: r, _ =>
    have h1 := ho a (by simp)
    have h2 := ho b (by simp)
    have h3 := ho c (by simp)
    have h4 := ho d (by simp)
    have h5 := ho e (by simp)
    have h6 := ho f (by simp)
    have h7 := ho g (by simp)
    have h8 := ho h (by simp)
    have e1 : ofBe8 (a :: b :: c :: d :: e :: f :: g :: h :: r) = ((((((((0 * 256 + a) * 256 + b) * 256 + c) * 256 + d) * 256 + e) * 256 + f) * 256 + g) * 256 + h) := rfl
    rw [e1]
    simp only [be8, List.take_succ_cons, List.take_zero, List.cons.injEq, and_true]
    refine ⟨?_, ?_, ?_, ?_, ?_, ?_, ?_, ?_⟩ <;> omega

/-- A handle, and as many bytes 0. -/
def boxOf (h : Int) (z : Nat) : List Int := be8 h ++ List.replicate z 0
theorem boxOf_length (h : Int) (z : Nat) : (boxOf h z).length = 8 + z := by simp [boxOf, be8_length]

/-- What the program keeps behind a handle. -/
structure Thing where
  use : Int
  secret : Int
  key : Int
  zeros : Nat
  bound : List Int
  plain : List Int

/-- How many bytes 0 stand behind the handle of a sealed text. -/
def zerosOf (p : List Int) : Nat := (sizeI (cls p.length)).toNat

def thingOf : What → Thing
  | Sum.inl (Sum.inl _) => ⟨0, 0, 0, 0, [], []⟩
  | Sum.inr (Sum.inl (Sum.inr (_, _))) => ⟨0, 0, 0, 0, [], []⟩
  | Sum.inl (Sum.inr false) => ⟨1, 0, 0, 0, [], []⟩
  | Sum.inl (Sum.inr true) => ⟨2, 0, 0, 0, [], []⟩
  | Sum.inr (Sum.inl (Sum.inl s)) => ⟨3, s, 0, 0, [], []⟩
  | Sum.inr (Sum.inr (Sum.inl (k, b, p))) => ⟨4, 0, k, zerosOf p, b, p⟩
  | Sum.inr (Sum.inr (Sum.inr (s, k, _))) => ⟨5, s, k, 8, [], []⟩
def noThing : Thing := ⟨0, 0, 0, 0, [], []⟩

/-! ### what each call answers -/

def St.sign (S : St) (s : Int) (b : List Int) : (Int × Int) × St := if S.at s = some .secret then (((S.get (.sig s b)).1, 0), (S.get (.sig s b)).2) else ((0, 11), S)
def St.verify (S : St) (p : Int) (b : List Int) (g : Int) : Bool := match S.at p with
  | some (Sum.inr (Sum.inl (Sum.inl s))) => decide (S.of (.sig s b) = some g)
  | _ => false
def St.seal (S : St) (k : Int) (b p : List Int) : (List Int × Int) × St :=
  if S.at k = some .key then (if cls p.length = -1 then (([], 3), S) else ((boxOf S.fresh (zerosOf p), 0), S.put (.seal k b p))) else (([], 11), S)
/-- What stands behind bytes. -/
def St.find (S : St) (l : List Int) : Option What := if 8 ≤ l.length then S.at (ofBe8 l) else none
def St.open (S : St) (k : Int) (b l : List Int) : List Int × Int := match S.find l with
  | some (Sum.inr (Sum.inr (Sum.inl (k', b', p)))) => if l = boxOf (ofBe8 l) (zerosOf p) then (if k' = k then (if b' = b then (p, 0) else ([], 5)) else ([], 11)) else ([], 4)
  | _ => ([], 4)
def St.wrap (S : St) (p k : Int) : (List Int × Int) × St := match S.at p with
  | some (Sum.inr (Sum.inl (Sum.inl s))) => if S.at k = some .key then ((boxOf S.fresh 8, 0), S.put (.wrap s k p)) else (([], 11), S)
  | _ => (([], 20), S)
def St.unwrap (S : St) (s : Int) (l : List Int) : Int × Int := match S.find l with
  | some (Sum.inr (Sum.inr (Sum.inr (s', k, _)))) => if l = boxOf (ofBe8 l) 8 then (if s' = s then (k, 0) else (0, 11)) else (0, 4)
  | _ => (0, 4)
end Go.Proofs.Ytiebbglknmcnpaa
