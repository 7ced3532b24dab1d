/-
  The contracts of the reference's forms, and of the form of a text: a number's, an Int's, bytes', a word's; appends under a guard.
  More laws of byte slices in memory, over any program: copy into an own row of any length, and rows just made.
  The classes of layer 2 by plain numbers, and what the program's functions on classes answer: whatever the numbers.
  The oracle of layer 3 by plain lists: draws, and rows of handles with what stands behind each; fresh handles; what each call answers.
  bytes.Equal tells whether two slices read as the same bytes.
  What an argument that came in reads as: bytes, numbers.
-/
import Derived.Test.YthnjbjlhfohpfaaGreatPut
import Derived.Lib.AppendStr
import Derived.Test.YthnjbjlhfohpfaaGreatBase
import Derived.OpenShut
namespace Go.Proofs.YthnjbjlhfohpfaaGreat
section
set_option linter.unusedVariables false
open Go.RowKit

/-- A string's bytes, as numbers. -/
def sb (s : ByteArray) : List Int := s.data.toList.map fun b => (b.toNat : Int)
theorem sb_length (s : ByteArray) : (sb s).length = s.size := by rw [sb, List.length_map, Array.length_toList]; rfl
theorem sb_oct (s : ByteArray) : Oct (sb s) := fun x hx => by
  obtain ⟨b, _, rfl⟩ := List.mem_map.1 hx
  have := b.toNat_lt
  omega
theorem strCells_sb (s : ByteArray) : Lib.strCells s = cs8 (sb s) := by simp [Lib.strCells, cs8, sb]
theorem sb_strOfNums (l : List Int) (h : Oct l) : sb (strOfNums l) = l := by
  unfold sb
  rw [strOfNums_data, List.map_map]
  conv => rhs; rw [← List.map_id l]
  refine List.map_congr_left fun x hx => ?_
  have := h x hx
  simp [Function.comp]
  omega

theorem Own.kept {B : Nat} {e : TypeId} {w w' : World} {v : Value} {l : List Int} (h : Own B e w v l) (hg : w.grownBy w' none) : Own B e w' v l :=
  ⟨h.1, h.2.kept hg (by cases hv : v.ownBlock <;> simp)⟩

theorem own_one (w : World) (x : Int) (e : TypeId) (hx : 0 ≤ x ∧ x < 256) : Own w.heap.size e (w.alloc (.cells #[.int .u8 x] e)) (.slice (some ⟨w.heap.size, 0, none⟩) 1 1) [x] :=
  ⟨Oct.cons hx Oct.nil, by simp [cs8], .inr ⟨w.heap.size, 1, _, rfl, Nat.le_refl _, heap_alloc_new w _, Nat.le_refl _, by unfold maxLen; omega, by simp, by simp [cs8]⟩⟩

section
variable {P : Program} {w : World} {ops : Array Oper} {rest : List Oper} {o : Oper} {a : Act} {Q : Exit → Act → World → Prop}

theorem wpList_wanted (hw : Region.wanted o (yielded ops a.tmps) = true) (h : ∀ K : Act → World → Prop, (∀ a w, wpList P ops Q rest a w → K a w) → o.wp P a w K Q) : wpList P ops Q (o :: rest) a w :=
  wpList_step fun K hK => by rw [if_pos hw]; exact h K hK

/-- 'append(out, x...)' of bytes onto a row that the call made, under a guard that says yes. -/
theorem wpList_append_guard (t e : TypeId) (hT : ByteTy P t e) (hw : Region.wanted o (yielded ops a.tmps) = true) (s x : Operand)
    (ho : o.op = .call { callee := .builtin .append, args := #[s, x], argTypes := #[t, t] })
    (B : Nat) (v : Value) (l : List Int) (hs : a.eval s = v) (hown : Own B e w v l)
    (y : Value) (m : List Int) (hx : a.eval x = y) (hm : Rd w y m) (hlen : l.length + m.length ≤ 140737488355328) (hbase : B ≤ w.heap.size)
    (h : ∀ v' w', Own B e w' v' (l ++ m) → w.grownBy w' v.ownBlock → wpList P ops Q rest (a.put o.dst v') w') : wpList P ops Q (o :: rest) a w := by
  obtain ⟨hoct, ad, c, rfl, h1, h2, h3, h4⟩ := hm
  obtain ⟨i, hi, hz, hs1, hs2⟩ := info_parts hT.info
  have hmax : l.length + m.length ≤ maxLen := by unfold maxLen; omega
  refine wpList_wanted hw fun K hK => ?_
  rcases Nat.eq_zero_or_pos m.length with h0 | hp
  · have : m = [] := List.eq_nil_of_length_eq_zero h0
    subst this
    cases ad with
    | none =>
      have := h3 rfl
      subst this
      have hrun := run_append_owned_none (P := P) w B t o.type e i 1 hT.under hi v _ _ hown.2
      unfold Oper.wp
      simp [execOp, ho, resolve, invoke, builtin, hs, hx, hrun, Result.andThen]
      exact hK _ _ (h v w (by simpa using hown) (grown_refl _ _))
    | some ad =>
      refine wp_append_own w s x t ho B e i (.int .u8 0) 1 1 hT.under hi hz hs1 hs2 rfl (by decide) v l.length (cs8 l) hs hown.2 ad 0 c [] hx (by simp) (fun j u hu => by simp at hu) (fun u hu => by cases hu)
        (by simpa using hmax) (by simpa using hlen) hbase ?_
      intro v' w' ho' hg _
      exact hK _ _ (h v' w' ⟨by simpa using hown.1, by simpa using ho'⟩ hg)
  · obtain ⟨b, off, rfl, hc⟩ := h4 hp
    refine wp_append_own w s x t ho B e i (.int .u8 0) 1 1 hT.under hi hz hs1 hs2 rfl (by decide) v l.length (cs8 l) hs hown.2 ⟨b, off, none⟩ m.length c (cs8 m) hx (by simp [cs8]) (fun j u hu => ?_) (cs8_one m)
        hmax (by omega) hbase ?_
    · obtain ⟨hj, rfl⟩ := cs8_some hu
      rw [Addr.add_lit]
      exact hc j hj
    · intro v' w' ho' hg _
      refine hK _ _ (h v' w' ⟨hown.1.append hoct, ?_⟩ hg)
      rw [cs8_append, List.length_append]
      exact ho'

/-- 'append(out, s...)' of a string onto a row of bytes that the call made. -/
theorem wpList_append_str (t u e : TypeId) (hT : ByteTy P t e) (hu : P.underlying u = some .string) (hgd : o.guard = none) (sl x : Operand)
    (ho : o.op = .call { callee := .builtin .append, args := #[sl, x], argTypes := #[t, u] })
    (B : Nat) (v : Value) (l : List Int) (hs : a.eval sl = v) (hown : Own B e w v l) (s : ByteArray) (hx : a.eval x = .string s)
    (hlen : l.length + s.size ≤ 140737488355328) (hbase : B ≤ w.heap.size)
    (h : ∀ v' w', Own B e w' v' (l ++ sb s) → w.grownBy w' v.ownBlock → wpList P ops Q rest (a.put o.dst v') w') : wpList P ops Q (o :: rest) a w := by
  obtain ⟨i, hi, hz, hs1, hs2⟩ := info_parts hT.info
  refine Lib.wpList_append_own_string w hgd sl x t u ho B e i hT.under hu hi hz hs1 hs2 v l.length (cs8 l) hs hown.2 s hx (by unfold maxLen; omega) hlen hbase ?_
  intro v' w' ho' hg _
  refine h v' w' ⟨hown.1.append (sb_oct s), ?_⟩ hg
  rw [cs8_append, List.length_append, ← strCells_sb, sb_length]
  exact ho'
end

end

section
set_option linter.unusedVariables false
open Go.RowKit

theorem Oct.zeros (n : Nat) : Oct (List.replicate n 0) := fun x hx => by have := List.eq_of_mem_replicate hx; omega

/-- What 'make' made is a row of zeros. -/
theorem own_made (w : World) (e : TypeId) (L C : Nat) (hLC : L ≤ C) (hC : C ≤ maxLen) :
    Own w.heap.size e (w.alloc (.cells (cs8 (List.replicate C 0)).toArray e)) (.slice (some ⟨w.heap.size, 0, none⟩) L C) (List.replicate L 0) := by
  refine ⟨Oct.zeros L, by simp [cs8], .inr ⟨w.heap.size, C, (cs8 (List.replicate C 0)).toArray, by simp, Nat.le_refl _, heap_alloc_new w _, by simpa using hLC, hC, by simp [cs8], ?_⟩⟩
  simp [cs8, Nat.min_eq_left hLC]

theorem Own.lower {B B' : Nat} {e : TypeId} {w : World} {v : Value} {l : List Int} (h : Own B e w v l) (hB : B' ≤ B) : Own B' e w v l := by
  obtain ⟨ho, h1, h2⟩ := h
  refine ⟨ho, h1, ?_⟩
  rcases h2 with h2 | ⟨g, c, cur, hv, hb, hr⟩
  · exact .inl h2
  · exact .inr ⟨g, c, cur, hv, Nat.le_trans hB hb, hr⟩

section
variable {P : Program} {w : World} {ops : Array Oper} {rest : List Oper} {o : Oper} {a : Act} {Q : Exit → Act → World → Prop}

/-- 'copy(out, x)' into an own row at least as long as x. -/
theorem wpList_copy_into (t e : TypeId) (hT : ByteTy P t e) (hgd : o.guard = none) (d s : Operand)
    (ho : o.op = .call { callee := .builtin .copy, args := #[d, s], argTypes := #[t, t] })
    (B : Nat) (v : Value) (l : List Int) (hd : a.eval d = v) (hown : Own B e w v l) (y : Value) (m : List Int) (hs : a.eval s = y) (hm : Rd w y m) (hle : m.length ≤ l.length)
    (w0 : World) (hb : Below B w0 w)
    (h : ∀ w', Own B e w' v (m ++ l.drop m.length) → Below B w0 w' → wpList P ops Q rest (a.put o.dst (goInt m.length)) w') :
    wpList P ops Q (o :: rest) a w := by
  obtain ⟨hoct, sp, cap, rfl, h1, h2, h3, h4⟩ := hm
  obtain ⟨ho1, ho2, ho3⟩ := hown
  rcases ho3 with ⟨rfl, hn⟩ | ⟨g, c, cur, rfl, hBg, hg, hn, hc, hsz, htake⟩
  · have hl : l = [] := List.eq_nil_of_length_eq_zero hn
    subst hl
    have hm0 : m = [] := List.eq_nil_of_length_eq_zero (by simpa using hle)
    subst hm0
    refine wpList_copy_nothing hgd d s t t ho e hT.under hT.size none sp 0 0 0 cap hd (by simpa using hs) (by simp) ?_
    exact h w ⟨Oct.nil, World.ownsRow_nil _ _ _ _⟩ hb
  · have hcur : l.length ≤ cur.toList.length := by simp; omega
    refine wpList_copy_splice hgd d s t t ho e hT.under hT.size (some ⟨g, 0, none⟩) sp l.length c m.length cap hd hs g 0 cur.toList e (by simpa using hg) (cs8 m) (by rw [cs8_length]; exact (Nat.min_eq_left hle).symm)
      (fun hp => ⟨rfl, ?_⟩) (by rw [cs8_length]; omega) (cs8_one m) B w0 hb hBg ?_
    · obtain ⟨b, off, rfl, hc⟩ := h4 (by simpa [cs8] using hp)
      refine ⟨_, rfl, fun j u hu => ?_⟩
      obtain ⟨hj, rfl⟩ := cs8_some hu
      rw [Addr.add_lit]
      exact hc j hj
    · intro w' hrow hb'
      rw [cs8_length]
      refine h w' ⟨hoct.append (ho1.drop _), ?_⟩ hb'
      have hlen : (m ++ l.drop m.length).length = l.length := by simp; omega
      refine ⟨by simp [cs8], .inr ⟨g, c, _, by rw [hlen], hBg, hrow.out, by rw [hlen]; exact hn, hc, ?_, ?_⟩⟩
      · simp only [List.size_toArray]
        rw [length_splice _ _ _ (by rw [cs8_length]; omega)]
        simpa using hsz
      · rw [hlen]
        simp only [Nat.mul_one] at htake ⊢
        rw [cs8_append]
        have hd2 : cs8 (l.drop m.length) = (cs8 l).drop m.length := by simp [cs8]
        rw [hd2, ← htake]
        simp only [splice, List.take_zero, List.nil_append, Nat.zero_add, cs8_length]
        rw [List.take_append, List.take_of_length_le (by rw [cs8_length]; exact hle), cs8_length, List.drop_take]
end
end

section
set_option linter.unusedVariables false
open Go.RowKit

/-- How many bytes the longest text of a class has. -/
def roomOf (c : Nat) : Nat := if c = 0 then 15 else if c = 1 then 31 else if c = 2 then 63 else if c = 3 then 127 else if c = 4 then 254 else if c = 5 then 510 else 1022
/-- The class of a count of bytes. -/
def cls (n : Nat) : Int := if n ≤ 15 then 0 else if n ≤ 31 then 1 else if n ≤ 63 then 2 else if n ≤ 127 then 3 else if n ≤ 254 then 4 else if n ≤ 510 then 5 else if n ≤ 1022 then 6 else -1

theorem form_len1 {n : Nat} (h : n < 128) : (form n).length = 1 := by rw [form_lt h]; rfl
theorem form_len2 {n : Nat} (h : ¬ n < 128) (h2 : n < 16384) : (form n).length = 2 := by rw [form_ge h, form_lt (by omega)]; rfl

theorem fits (c n : Nat) (hc : c < 7) : n + (form n).length ≤ 16 * 2 ^ c ↔ n ≤ roomOf c := by
  have hp := form_pos n
  have h7 : c = 0 ∨ c = 1 ∨ c = 2 ∨ c = 3 ∨ c = 4 ∨ c = 5 ∨ c = 6 := by omega
  by_cases h1 : n < 128
  · have := form_len1 h1
    rcases h7 with rfl | rfl | rfl | rfl | rfl | rfl | rfl <;> simp [roomOf] <;> omega
  · by_cases h2 : n < 16384
    · have := form_len2 h1 h2
      rcases h7 with rfl | rfl | rfl | rfl | rfl | rfl | rfl <;> simp [roomOf] <;> omega
    · rcases h7 with rfl | rfl | rfl | rfl | rfl | rfl | rfl <;> simp [roomOf] <;> omega

theorem cls_hit {c n : Nat} (hc : c < 7) (h1 : c = 0 ∨ roomOf (c - 1) < n) (h2 : n ≤ roomOf c) : cls n = c := by
  have h7 : c = 0 ∨ c = 1 ∨ c = 2 ∨ c = 3 ∨ c = 4 ∨ c = 5 ∨ c = 6 := by omega
  unfold cls
  rcases h7 with rfl | rfl | rfl | rfl | rfl | rfl | rfl <;> simp [roomOf] at h1 h2 ⊢ <;> omega
theorem cls_none {n : Nat} (h : 1022 < n) : cls n = -1 := by unfold cls; repeat (rw [if_neg (by omega)])

/-- The class of any int. -/
def clsI (n : Int) : Int := if n < 0 then -1 else cls n.toNat
def sizeI (c : Int) : Int := if 0 ≤ c ∧ c < 7 then ((16 * 2 ^ c.toNat : Nat) : Int) else 0
def roomI (c : Int) : Int := if 0 ≤ c ∧ c < 7 then (roomOf c.toNat : Int) else -1
theorem clsI_nat (n : Nat) : clsI n = cls n := by unfold clsI; rw [if_neg (by omega)]; simp
end

section
set_option linter.unusedVariables false
set_option synthInstance.maxSize 20000

/-- A number that a uint64 holds. -/
def U64 (x : Int) : Prop := 0 ≤ x ∧ x < 18446744073709551616

/-- What stands behind a handle. -/
abbrev What := (List Int ⊕ Bool) ⊕ ((Int ⊕ Int × List Int) ⊕ (Int × List Int × List Int ⊕ Int × Int × Int))
abbrev What.hash (b : List Int) : What := Sum.inl (Sum.inl b)
abbrev What.key : What := Sum.inl (Sum.inr false)
abbrev What.secret : What := Sum.inl (Sum.inr true)
abbrev What.pub (s : Int) : What := Sum.inr (Sum.inl (Sum.inl s))
abbrev What.sig (s : Int) (b : List Int) : What := Sum.inr (Sum.inl (Sum.inr (s, b)))
/-- A sealed text: its key, what it is bound to, its plain text. -/
abbrev What.seal (k : Int) (bound plain : List Int) : What := Sum.inr (Sum.inr (Sum.inl (k, bound, plain)))
/-- A wrapped key: the secret that unwraps it, the key, the public handle. -/
abbrev What.wrap (s k p : Int) : What := Sum.inr (Sum.inr (Sum.inr (s, k, p)))
theorem What.each {motive : What → Prop} (hash : ∀ b, motive (What.hash b)) (key : motive What.key) (secret : motive What.secret) (pub : ∀ s, motive (What.pub s)) (sig : ∀ s b, motive (What.sig s b))
    (sealed : ∀ k b p, motive (What.seal k b p)) (wrap : ∀ s k p, motive (What.wrap s k p)) : ∀ x, motive x
  | Sum.inl (Sum.inl b) => hash b
  | Sum.inl (Sum.inr false) => key
  | Sum.inl (Sum.inr true) => secret
  | Sum.inr (Sum.inl (Sum.inl s)) => pub s
  | Sum.inr (Sum.inl (Sum.inr (s, b))) => sig s b
  | Sum.inr (Sum.inr (Sum.inl (k, b, p))) => sealed k b p
  | Sum.inr (Sum.inr (Sum.inr (s, k, p))) => wrap s k p
theorem What.hash.injEq (a b : List Int) : (What.hash a = What.hash b) = (a = b) := by simp
theorem What.sig.injEq (s : Int) (a : List Int) (t : Int) (b : List Int) : (What.sig s a = What.sig t b) = (s = t ∧ a = b) := by simp

/-- Draws that are still to come, and all that was handed out. -/
structure St where
  draws : List Int
  rows : List (Int × What)

def St.us (S : St) : List Int := S.rows.map (·.1)
/-- What stands behind h. -/
def St.at (S : St) (h : Int) : Option What := (S.rows.find? (fun r => r.1 == h)).map (·.2)
/-- The handle of a thing. -/
def St.of (S : St) (x : What) : Option Int := (S.rows.find? (fun r => decide (r.2 = x))).map (·.1)

/-! ### fresh handles -/

theorem pigeon : ∀ (m : Nat) (l : List Int), (∀ i : Int, 1 ≤ i → i ≤ m → i ∈ l) → m ≤ l.length
  | 0, _, _ => Nat.zero_le _
  | m + 1, l, h => by
    have hm : ((m + 1 : Nat) : Int) ∈ l := h _ (by omega) (by omega)
    have := pigeon m (l.erase ((m + 1 : Nat) : Int)) (fun i h1 h2 => (List.mem_erase_of_ne (by omega)).2 (h i h1 (by omega)))
    rw [List.length_erase_of_mem hm] at this
    have := List.length_pos_of_mem hm
    omega

/-- The least number from 1 on that is not among us. -/
def leastFree (us : List Int) : Int := match (List.range (us.length + 1)).find? (fun i : Nat => decide ¬ ((i : Int) + 1 ∈ us)) with
  | some i => (i : Int) + 1
  | none => 0

theorem leastFree_spec (us : List Int) : 1 ≤ leastFree us ∧ leastFree us ≤ us.length + 1 ∧ leastFree us ∉ us ∧ ∀ i, 1 ≤ i → i < leastFree us → i ∈ us := by
  unfold leastFree
  cases h : (List.range (us.length + 1)).find? (fun i : Nat => decide ¬ ((i : Int) + 1 ∈ us)) with
  | none =>
    exfalso
    rw [List.find?_eq_none] at h
    have := pigeon (us.length + 1) us (fun i h1 h2 => by
      have := h (i.toNat - 1) (List.mem_range.2 (by omega))
      simp at this
      have e : ((i.toNat - 1 : Nat) : Int) + 1 = i := by omega
      rwa [e] at this)
    omega
  | some i =>
    rw [List.find?_range_eq_some] at h
    obtain ⟨h1, h2, h3⟩ := h
    simp at h1 h2
    refine ⟨by simp only; omega, by simp only; omega, h1, fun j hj1 hj2 => ?_⟩
    simp only at hj2
    have := h3 (j.toNat - 1) (by omega)
    simp at this
    have e : ((j.toNat - 1 : Nat) : Int) + 1 = j := by omega
    rwa [e] at this

theorem leastFree_one {us : List Int} {n : Int} (h1 : 1 ≤ n) (h2 : n ∉ us) (h3 : ∀ i, 1 ≤ i → i < n → i ∈ us) : leastFree us = n := by
  obtain ⟨g1, g2, g3, g4⟩ := leastFree_spec us
  rcases Int.lt_trichotomy (leastFree us) n with h | h | h
  · exact absurd (h3 _ g1 h) g3
  · exact h
  · exact absurd (g4 _ h1 h) h2

/-- A fresh handle, and the draws behind it. -/
def freshOf (us : List Int) : List Int → Int × List Int
  | [] => (leastFree us, [])
  | d :: ds => if d = 0 ∨ d ∈ us then freshOf us ds else (d, ds)

theorem freshOf_spec (us : List Int) : ∀ ds, (∀ d ∈ ds, U64 d) → us.length < 1000000000000 → (freshOf us ds).1 ≠ 0 ∧ (freshOf us ds).1 ∉ us ∧ U64 (freshOf us ds).1 ∧ (∀ d ∈ (freshOf us ds).2, U64 d) ∧ (freshOf us ds).2.length ≤ ds.length
  | [], _, hl => by
    obtain ⟨g1, g2, g3, _⟩ := leastFree_spec us
    exact ⟨by simp [freshOf]; omega, g3, by simp [freshOf, U64]; omega, (fun d h => by simp [freshOf] at h), Nat.le_refl _⟩
  | d :: ds, hd, hl => by
    unfold freshOf
    split
    · obtain ⟨a, b, c, e, f⟩ := freshOf_spec us ds (fun x hx => hd x (List.mem_cons_of_mem _ hx)) hl
      exact ⟨a, b, c, e, by simp; omega⟩
    · rename_i h
      exact ⟨fun e => h (.inl e), fun e => h (.inr e), hd d (by simp), fun x hx => hd x (List.mem_cons_of_mem _ hx), by simp⟩

/-! ### the calls -/

def St.fresh (S : St) : Int := (freshOf S.us S.draws).1
/-- A new row with a fresh handle. -/
def St.put (S : St) (x : What) : St := ⟨(freshOf S.us S.draws).2, S.rows ++ [(S.fresh, x)]⟩
/-- The handle of x, and the oracle behind the call. -/
def St.get (S : St) (x : What) : Int × St := match S.of x with
  | some h => (h, S)
  | none => (S.fresh, S.put x)

/-- A handle in eight bytes, the highest first. -/
def be8 (h : Int) : List Int := [h / 72057594037927936 % 256, h / 281474976710656 % 256, h / 1099511627776 % 256, h / 4294967296 % 256, h / 16777216 % 256, h / 65536 % 256, h / 256 % 256, h % 256]
/-- The handle that bytes begin with. -/
def ofBe8 (l : List Int) : Int := (l.take 8).foldl (fun n x => n * 256 + x) 0
theorem be8_length (h : Int) : (be8 h).length = 8 := rfl
theorem be8_oct (h : Int) : Oct (be8 h) := fun x hx => by simp [be8] at hx; omega
theorem ofBe8_be8 (h : Int) (l : List Int) (hh : U64 h) : ofBe8 (be8 h ++ l) = h := by
  unfold U64 at hh
  simp [ofBe8, be8]
  omega
theorem ofBe8_U64 (l : List Int) (ho : Oct l) : U64 (ofBe8 l) := by
  have key : ∀ (m : List Int) (n : Int) (j : Nat), Oct m → 0 ≤ n → n < 256 ^ j → 0 ≤ m.foldl (fun n x => n * 256 + x) n ∧ m.foldl (fun n x => n * 256 + x) n < 256 ^ (j + m.length) := by
    intro m
    induction m with
    | nil => intro n j _ h1 h2; simpa using ⟨h1, h2⟩
    | cons x m ih =>
      intro n j ho h1 h2
      have hx := ho x (by simp)
      have e1 : (256 : Int) ^ (j + 1) = 256 ^ j * 256 := by rw [Int.pow_succ]
      have := ih (n * 256 + x) (j + 1) (fun y hy => ho y (List.mem_cons_of_mem _ hy)) (by omega) (by omega)
      simp only [List.foldl_cons, List.length_cons]
      rw [show j + (m.length + 1) = j + 1 + m.length by omega]
      exact this
  have := key (l.take 8) 0 0 (ho.take 8) (by omega) (by decide)
  have hl : (l.take 8).length ≤ 8 := by simp; omega
  have hp : (256 : Int) ^ (0 + (l.take 8).length) ≤ 256 ^ 8 := by
    have : (256 : Nat) ^ (0 + (l.take 8).length) ≤ 256 ^ 8 := Nat.pow_le_pow_right (by omega) (by omega)
    have h3 := Int.ofNat_le.2 this
    rw [Int.natCast_pow, Int.natCast_pow] at h3
    exact h3
  unfold U64 ofBe8
  have e : (256 : Int) ^ 8 = 18446744073709551616 := by decide
  omega
theorem be8_ofBe8 {l : List Int} (ho : Oct l) (hl : 8 ≤ l.length) : be8 (ofBe8 l) = l.take 8 := by
  match l, hl with
  | a :: b :: c :: d :: e :: f :: g :: h :: r, _ =>
    have h1 := ho a (by simp)
    have h2 := ho b (by simp)
    have h3 := ho c (by simp)
    have h4 := ho d (by simp)
    have h5 := ho e (by simp)
    have h6 := ho f (by simp)
    have h7 := ho g (by simp)
    have h8 := ho h (by simp)
    have e1 : ofBe8 (a :: b :: c :: d :: e :: f :: g :: h :: r) = ((((((((0 * 256 + a) * 256 + b) * 256 + c) * 256 + d) * 256 + e) * 256 + f) * 256 + g) * 256 + h) := rfl
    rw [e1]
    simp only [be8, List.take_succ_cons, List.take_zero, List.cons.injEq, and_true]
    refine ⟨?_, ?_, ?_, ?_, ?_, ?_, ?_, ?_⟩ <;> omega

/-- A handle, and as many bytes 0. -/
def boxOf (h : Int) (z : Nat) : List Int := be8 h ++ List.replicate z 0
theorem boxOf_length (h : Int) (z : Nat) : (boxOf h z).length = 8 + z := by simp [boxOf, be8_length]

/-- What the program keeps behind a handle. -/
structure Thing where
  use : Int
  secret : Int
  key : Int
  zeros : Nat
  bound : List Int
  plain : List Int

/-- How many bytes 0 stand behind the handle of a sealed text. -/
def zerosOf (p : List Int) : Nat := (sizeI (cls p.length)).toNat

def thingOf : What → Thing
  | Sum.inl (Sum.inl _) => ⟨0, 0, 0, 0, [], []⟩
  | Sum.inr (Sum.inl (Sum.inr (_, _))) => ⟨0, 0, 0, 0, [], []⟩
  | Sum.inl (Sum.inr false) => ⟨1, 0, 0, 0, [], []⟩
  | Sum.inl (Sum.inr true) => ⟨2, 0, 0, 0, [], []⟩
  | Sum.inr (Sum.inl (Sum.inl s)) => ⟨3, s, 0, 0, [], []⟩
  | Sum.inr (Sum.inr (Sum.inl (k, b, p))) => ⟨4, 0, k, zerosOf p, b, p⟩
  | Sum.inr (Sum.inr (Sum.inr (s, k, _))) => ⟨5, s, k, 8, [], []⟩
def noThing : Thing := ⟨0, 0, 0, 0, [], []⟩

/-! ### what each call answers -/

def St.sign (S : St) (s : Int) (b : List Int) : (Int × Int) × St := if S.at s = some .secret then (((S.get (.sig s b)).1, 0), (S.get (.sig s b)).2) else ((0, 11), S)
def St.verify (S : St) (p : Int) (b : List Int) (g : Int) : Bool := match S.at p with
  | some (Sum.inr (Sum.inl (Sum.inl s))) => decide (S.of (.sig s b) = some g)
  | _ => false
def St.seal (S : St) (k : Int) (b p : List Int) : (List Int × Int) × St :=
  if S.at k = some .key then (if cls p.length = -1 then (([], 3), S) else ((boxOf S.fresh (zerosOf p), 0), S.put (.seal k b p))) else (([], 11), S)
/-- What stands behind bytes. -/
def St.find (S : St) (l : List Int) : Option What := if 8 ≤ l.length then S.at (ofBe8 l) else none
def St.open (S : St) (k : Int) (b l : List Int) : List Int × Int := match S.find l with
  | some (Sum.inr (Sum.inr (Sum.inl (k', b', p)))) => if l = boxOf (ofBe8 l) (zerosOf p) then (if k' = k then (if b' = b then (p, 0) else ([], 5)) else ([], 11)) else ([], 4)
  | _ => ([], 4)
def St.wrap (S : St) (p k : Int) : (List Int × Int) × St := match S.at p with
  | some (Sum.inr (Sum.inl (Sum.inl s))) => if S.at k = some .key then ((boxOf S.fresh 8, 0), S.put (.wrap s k p)) else (([], 11), S)
  | _ => (([], 20), S)
def St.unwrap (S : St) (s : Int) (l : List Int) : Int × Int := match S.find l with
  | some (Sum.inr (Sum.inr (Sum.inr (s', k, _)))) => if l = boxOf (ofBe8 l) 8 then (if s' = s then (k, 0) else (0, 11)) else (0, 4)
  | _ => (0, 4)
end

section
set_option linter.unusedVariables false
open Go.RowKit

/-- string(v), v bytes. -/
theorem run_convert_rd {P : Program} (w : World) (src dst e : TypeId) (hs : P.underlying src = some (.slice e)) (he : P.underlying e = some (.int .u8)) (hd : P.underlying dst = some .string) (v : Value) (l : List Int) (hv : Rd w v l) :
    (convert src dst v).run P w = .ok (.string (strOfNums l)) w := by
  obtain ⟨ho, a, cap, rfl, h1, h2, h3, h4⟩ := hv
  rcases Nat.eq_zero_or_pos l.length with h0 | hp
  · obtain rfl : l = [] := List.eq_nil_of_length_eq_zero h0
    cases a with
    | none => exact run_convert_bytes_nil w src e hs he 0 cap dst hd
    | some a =>
      have hl : (loadCells a 0).run P w = .ok (([] : List Int).map (Value.int .u8)).toArray w := by
        simp [loadCells, loadCellsFrom]
      rw [List.length_nil, run_convert_bytes_string w src dst e _ 0 cap hs he hd, run_bytesToString w a 0 cap [] hl]
      rfl
  · obtain ⟨b, off, rfl, hc⟩ := h4 hp
    exact run_convert_bytes_arg w src e hs he b off l.length cap l rfl hc dst hd


theorem strOfNums_inj {a b : List Int} (ha : Oct a) (hb : Oct b) (h : strOfNums a = strOfNums b) : a = b := by
  rw [← sb_strOfNums a ha, ← sb_strOfNums b hb, h]

theorem strEq {a b : List Int} (ha : Oct a) (hb : Oct b) : ((strOfNums a).toList == (strOfNums b).toList) = decide (a = b) := by
  by_cases h : a = b
  · subst h; simp
  · rw [decide_eq_false h, ByteArray.toList_eq, ByteArray.toList_eq]
    have : (strOfNums a).data.toList ≠ (strOfNums b).data.toList := fun e => h (strOfNums_inj ha hb (Go.WideShapes.bytes_inj e))
    simpa using this

end

section
set_option linter.unusedVariables false
open Go.RowKit

theorem rd_of_row {w : World} {a : Option Addr} {len cap : Nat} {zs : List Int}
    (h : (a = none ∧ len = 0 ∧ cap = 0 ∧ zs = []) ∨ ∃ x, a = some x ∧ len ≤ cap ∧ cap ≤ maxLen ∧ zs.length = cap ∧ (∀ i, i < zs.length → w.cell? (x.add i) = some (.int .u8 (zs.getD i 0))) ∧ ∀ n ∈ zs, (Lit.int .u8 n).wf = true) :
    Rd w (.slice a len cap) (zs.take len) := by
  rcases h with ⟨rfl, rfl, rfl, rfl⟩ | ⟨x, rfl, hl, hm, hz, hc, hw⟩
  · exact rd_nil w
  · have hlen : (zs.take len).length = len := by rw [List.length_take]; omega
    have ho : Oct zs := fun n hn => by
      have := hw n hn
      simp [Lit.wf, IntKind.min, IntKind.max, IntKind.signed, IntKind.bits] at this
      omega
    refine ⟨ho.take len, some x, cap, by rw [hlen], by omega, hm, (fun h => by cases h), fun hp => ?_⟩
    obtain ⟨b, off, spot⟩ := x
    have h0 := hc 0 (by omega)
    have hspot : spot = none := by simpa [Addr.add] using World.cell?_spot h0
    subst hspot
    refine ⟨b, off, rfl, fun j hj => ?_⟩
    have := hc j (by omega)
    rw [Addr.add_lit] at this
    rw [this, List.getD_eq_getElem?_getD, List.getD_eq_getElem?_getD, List.getElem?_take, if_pos (by omega)]

theorem wf_u64 {n : Int} (h : (Lit.int .u64 n).wf = true) : 0 ≤ n ∧ n < 18446744073709551616 := by
  simp [Lit.wf, IntKind.min, IntKind.max, IntKind.signed, IntKind.bits] at h
  omega
theorem wf_i64 {n : Int} (h : (Lit.int .i64 n).wf = true) : -9223372036854775808 ≤ n ∧ n ≤ 9223372036854775807 := by
  simp [Lit.wf, IntKind.min, IntKind.max, IntKind.signed, IntKind.bits] at h
  omega
end
end Go.Proofs.YthnjbjlhfohpfaaGreat
