/-
  The bytes of a change, and the change of bytes, by lists.
-/
import Derived.Test.YtgoghmabhdkdjaaRgtM
import Derived.Test.YtgoghmabhdkdjaaRdx
import Derived.Test.YtgoghmabhdkdjaaApp
namespace Go.Proofs.Ytgoghmabhdkdjaa
set_option linter.unusedVariables false
set_option linter.unusedSimpArgs false
set_option synthInstance.maxSize 20000
set_option maxHeartbeats 2000000
set_option maxRecDepth 20000
open Go.RowKit Go.Maps

def wBytes (x : Wp) : List Int := form x.w.toNat ++ (form x.b.length ++ x.b)
def wsBytes : List Wp → List Int
  | [] => []
  | x :: r => wBytes x ++ wsBytes r
def bytesC (c : Cg) : List Int := form c.k.toNat ++ (if c.k = 1 then form c.w.toNat ++ form c.p.toNat else if c.k = 2 then form c.w.toNat ++ form c.l.toNat else form c.ws.length ++ (wsBytes c.ws ++ (form c.o.length ++ c.o)))
theorem wsBytes_append (a b : List Wp) : wsBytes (a ++ b) = wsBytes a ++ wsBytes b := by
  induction a with
  | nil => rfl
  | cons x r ih => simp [wsBytes, ih]
def takeWs : Nat → List Int → Int → List Wp × List Int × Int
  | 0, l, k => ([], l, k)
  | n + 1, l, k => (⟨(rCount l k 7).1, (rBytes (rCount l k 7).2.1 (rCount l k 7).2.2 16).1⟩ :: (takeWs n (rBytes (rCount l k 7).2.1 (rCount l k 7).2.2 16).2.1 (rBytes (rCount l k 7).2.1 (rCount l k 7).2.2 16).2.2).1, (takeWs n (rBytes (rCount l k 7).2.1 (rCount l k 7).2.2 16).2.1 (rBytes (rCount l k 7).2.1 (rCount l k 7).2.2 16).2.2).2)
def zC : Cg := ⟨0, 0, 0, 0, [], []⟩
def read1 (l : List Int) (k : Int) : Cg × List Int × Int := (⟨1, (rCount l k 7).1, (rNum (rCount l k 7).2.1 (rCount l k 7).2.2).1, 0, [], []⟩, (rNum (rCount l k 7).2.1 (rCount l k 7).2.2).2)
def read2 (l : List Int) (k : Int) : Cg × List Int × Int := (⟨2, (rCount l k 7).1, 0, (rCount (rCount l k 7).2.1 (rCount l k 7).2.2 200).1, [], []⟩, (rCount (rCount l k 7).2.1 (rCount l k 7).2.2 200).2)
def wsOf (l : List Int) (k : Int) : List Wp × List Int × Int := takeWs (rCount l k 8).1.toNat (rCount l k 8).2.1 (rCount l k 8).2.2
def read3 (l : List Int) (k : Int) : Cg × List Int × Int := (⟨3, 0, 0, 0, (wsOf l k).1, (rBytes (wsOf l k).2.1 (wsOf l k).2.2 24).1⟩, (rBytes (wsOf l k).2.1 (wsOf l k).2.2 24).2)
def readC (l : List Int) (k : Int) : Cg × List Int × Int :=
  if (rCount l k 3).1 = 1 then read1 (rCount l k 3).2.1 (rCount l k 3).2.2
  else if (rCount l k 3).1 = 2 then read2 (rCount l k 3).2.1 (rCount l k 3).2.2
  else if (rCount l k 3).1 = 3 then read3 (rCount l k 3).2.1 (rCount l k 3).2.2
  else (⟨(rCount l k 3).1, 0, 0, 0, [], []⟩, (rCount l k 3).2)
def readM (l : List Int) : Cg × Int := if doneK (readC l 0).2.1 (readC l 0).2.2 ≠ 0 then (zC, doneK (readC l 0).2.1 (readC l 0).2.2) else if rightB (readC l 0).1 = true then ((readC l 0).1, 0) else (zC, 4)
/-! ### What is put comes back -/
theorem oct_rNum {l : List Int} {k : Int} (ho : Oct l) : Oct (rNum l k).2.1 := by
  unfold rNum
  cases hp : parse 0 l with
  | none => exact Oct.nil
  | some q =>
    obtain ⟨n, r⟩ := q
    have := (numAt_some ho hp).2.1
    rw [this] at ho
    exact ho.of_append.2
theorem oct_rCount {l : List Int} {k most : Int} (ho : Oct l) : Oct (rCount l k most).2.1 := by
  unfold rCount
  split
  · exact Oct.nil
  · exact oct_rNum ho
theorem oct_rBytes {l : List Int} {k most : Int} (ho : Oct l) : Oct (rBytes l k most).2.1 := by
  unfold rBytes
  split
  · exact Oct.nil
  · split
    · exact Oct.nil
    · exact (oct_rNum ho).drop _
theorem oct_takeWs : ∀ (n : Nat) {l : List Int} {k : Int}, Oct l → Oct (takeWs n l k).2.1
  | 0, l, k, ho => ho
  | n + 1, l, k, ho => by
    rw [takeWs]
    exact oct_takeWs n (oct_rBytes (oct_rCount ho))
theorem ws_rise : ∀ {ws : List Wp} {p : Int}, wsF (some p) ws = true → (ws.length : Int) ≤ 7 - p ∨ ws = []
  | [], p, _ => .inr rfl
  | x :: r, p, h => by
    have h0 := h
    unfold wsF at h
    rw [Bool.and_eq_true] at h
    have h1 := h.1
    unfold stepB behB whoB at h1
    simp only [Bool.and_eq_true, decide_eq_true_eq] at h1
    left
    rcases ws_rise h.2 with h2 | h2
    · simp only [List.length_cons]
      omega
    · subst h2
      simp
      omega
theorem ws_le {ws : List Wp} (h : wsF none ws = true) : ws.length ≤ 8 := by
  cases ws with
  | nil => simp
  | cons x r =>
    unfold wsF at h
    rw [Bool.and_eq_true] at h
    have h1 := h.1
    unfold stepB whoB at h1
    simp only [Bool.and_eq_true, decide_eq_true_eq] at h1
    rcases ws_rise h.2 with h2 | h2
    · simp only [List.length_cons]
      omega
    · subst h2
      simp
theorem rNum_form {n : Nat} (h : n < 18446744073709551616) (r : List Int) (k : Int) : rNum (form n ++ r) k = (n, r, k) := by
  unfold rNum
  rw [parse_form n 0 r (by omega) (by simpa using h) (.inl rfl)]
theorem rCount_form {n : Nat} {most : Int} (h : (n : Int) ≤ most) (hm : most ≤ 1000) (r : List Int) : rCount (form n ++ r) 0 most = ((n : Int), r, 0) := by
  unfold rCount
  rw [rNum_form (by omega), if_neg (by simp; omega)]
theorem rBytes_form {b : List Int} {most : Int} (h : (b.length : Int) ≤ most) (hm : most ≤ 1000) (r : List Int) : rBytes (form b.length ++ (b ++ r)) 0 most = (b, r, 0) := by
  unfold rBytes
  rw [rNum_form (by omega), if_neg (by simp), if_neg (by simp; omega)]
  simp
theorem takeWs_form : ∀ (ws : List Wp) (r : List Int), (∀ x ∈ ws, (0 ≤ x.w ∧ x.w ≤ 7) ∧ x.b.length = 16) → takeWs ws.length (wsBytes ws ++ r) 0 = (ws, r, 0)
  | [], r, _ => rfl
  | x :: t, r, h => by
    obtain ⟨⟨h1, h2⟩, h3⟩ := h x (by simp)
    have e1 : wsBytes (x :: t) ++ r = form x.w.toNat ++ (form x.b.length ++ (x.b ++ (wsBytes t ++ r))) := by simp [wsBytes, wBytes]
    have e2 : rCount (form x.w.toNat ++ (form x.b.length ++ (x.b ++ (wsBytes t ++ r)))) 0 7 = ((x.w.toNat : Int), form x.b.length ++ (x.b ++ (wsBytes t ++ r)), 0) := rCount_form (by omega) (by omega) _
    have e3 : rBytes (form x.b.length ++ (x.b ++ (wsBytes t ++ r))) 0 16 = (x.b, wsBytes t ++ r, 0) := rBytes_form (by omega) (by omega) _
    rw [e1, List.length_cons, takeWs, e2]
    simp only
    rw [e3]
    simp only
    rw [takeWs_form t r (fun y hy => h y (by simp [hy]))]
    have : ((x.w.toNat : Nat) : Int) = x.w := by omega
    rw [this]
theorem wsF_each : ∀ {ws : List Wp} {p : Option Int}, wsF p ws = true → ∀ x ∈ ws, (0 ≤ x.w ∧ x.w ≤ 7) ∧ x.b.length = 16
  | [], p, _, x, hx => by cases hx
  | y :: r, p, h, x, hx => by
    unfold wsF at h
    rw [Bool.and_eq_true] at h
    rcases List.mem_cons.1 hx with rfl | hx
    · have := h.1
      unfold stepB whoB at this
      simp only [Bool.and_eq_true, decide_eq_true_eq] at this
      exact this.1
    · exact wsF_each h.2 x hx
theorem back_read {c : Cg} (h : rightB c = true) (hp : U64 c.p) : readC (bytesC c) 0 = (c, [], 0) := by
  obtain ⟨k, w, p, l, ws, o⟩ := c
  dsimp only at hp
  unfold U64 at hp
  have hk := right_kind h
  dsimp only at hk
  unfold rightB whoB keyB oldB wsB at h
  dsimp only at h
  rcases hk with rfl | rfl | rfl
  · simp only [if_true, Bool.and_eq_true, decide_eq_true_eq] at h
    obtain ⟨⟨⟨h1, h2⟩, h3⟩, h4, h5⟩ := h
    subst h3
    have hw : ws = [] := List.eq_nil_of_length_eq_zero h4
    have ho : o = [] := List.eq_nil_of_length_eq_zero h5
    subst hw ho
    have e : bytesC ⟨1, w, p, 0, [], []⟩ = form 1 ++ (form w.toNat ++ (form p.toNat ++ [])) := by simp [bytesC]
    unfold readC
    rw [e, rCount_form (n := 1) (by omega) (by omega)]
    simp only [Int.natCast_one, if_true]
    unfold read1
    rw [rCount_form (n := w.toNat) (by omega) (by omega)]
    simp only
    rw [rNum_form (by omega)]
    simp
    omega
  · simp only [show ¬ (2 : Int) = 1 by omega, if_false, if_true, Bool.and_eq_true, decide_eq_true_eq] at h
    obtain ⟨⟨⟨⟨h1, h2⟩, h3⟩, h6⟩, h4, h5⟩ := h
    subst h3
    have hw : ws = [] := List.eq_nil_of_length_eq_zero h4
    have ho : o = [] := List.eq_nil_of_length_eq_zero h5
    subst hw ho
    have e : bytesC ⟨2, w, 0, l, [], []⟩ = form 2 ++ (form w.toNat ++ (form l.toNat ++ [])) := by simp [bytesC]
    unfold readC
    rw [e, rCount_form (n := 2) (by omega) (by omega)]
    simp only [show ¬ ((2 : Nat) : Int) = 1 by omega, if_false, show ((2 : Nat) : Int) = 2 by omega, if_true, show ¬ (2 : Int) = 1 by omega]
    unfold read2
    rw [rCount_form (n := w.toNat) (by omega) (by omega)]
    simp only
    rw [rCount_form (n := l.toNat) (by omega) (by omega)]
    simp
    omega
  · simp only [show ¬ (3 : Int) = 1 by omega, show ¬ (3 : Int) = 2 by omega, if_false, if_true, Bool.and_eq_true, decide_eq_true_eq] at h
    obtain ⟨⟨⟨⟨h1, h2⟩, h3⟩, h4, h5⟩, h6⟩ := h
    subst h1 h2 h3
    have hall := wsF_each h4
    have hlen : ws.length ≤ 8 := ws_le h4
    have e : bytesC ⟨3, 0, 0, 0, ws, o⟩ = form 3 ++ (form ws.length ++ (wsBytes ws ++ (form o.length ++ (o ++ [])))) := by simp [bytesC]
    unfold readC
    rw [e, rCount_form (n := 3) (by omega) (by omega)]
    simp only [show ((3 : Nat) : Int) = 3 by omega, show ¬ (3 : Int) = 1 by omega, show ¬ (3 : Int) = 2 by omega, if_false, if_true]
    unfold read3 wsOf
    rw [rCount_form (n := ws.length) (by omega) (by omega)]
    simp only [Int.toNat_natCast]
    rw [takeWs_form ws _ hall]
    simp only
    rw [rBytes_form (by omega) (by omega)]
/-! ### What is read has these bytes -/
theorem rNum_ok {l : List Int} {k : Int} (ho : Oct l) (h : (rNum l k).2.2 = 0) : k = 0 ∧ l = form (rNum l k).1 ++ (rNum l k).2.1 ∧ (rNum l k).1 < 18446744073709551616 := by
  unfold rNum at h ⊢
  cases hp : parse 0 l with
  | none =>
    rw [hp] at h
    simp only at h
    split at h <;> omega
  | some q =>
    obtain ⟨n, r⟩ := q
    rw [hp] at h
    simp only at h ⊢
    have := numAt_some ho hp
    exact ⟨h, this.2.1, this.2.2.1⟩
theorem rCount_ok {l : List Int} {k most : Int} (ho : Oct l) (h : (rCount l k most).2.2 = 0) : k = 0 ∧ ∃ n : Nat, (rCount l k most).1 = (n : Int) ∧ (n : Int) ≤ most ∧ l = form n ++ (rCount l k most).2.1 := by
  unfold rCount at h ⊢
  by_cases hm : most < (rNum l k).1
  · rw [if_pos hm] at h
    simp only at h
    split at h <;> omega
  · rw [if_neg hm] at h ⊢
    simp only at h ⊢
    obtain ⟨h1, h2, _⟩ := rNum_ok ho h
    exact ⟨h1, (rNum l k).1, rfl, by omega, h2⟩
theorem rBytes_ok {l : List Int} {k most : Int} (ho : Oct l) (h : (rBytes l k most).2.2 = 0) : k = 0 ∧ l = form (rBytes l k most).1.length ++ ((rBytes l k most).1 ++ (rBytes l k most).2.1) := by
  unfold rBytes at h ⊢
  by_cases h1 : (rNum l k).2.1.length < (rNum l k).1
  · rw [if_pos h1] at h
    simp only at h
    split at h <;> omega
  · rw [if_neg h1] at h ⊢
    by_cases h2 : most < (rNum l k).1
    · rw [if_pos h2] at h
      simp only at h
      split at h <;> omega
    · rw [if_neg h2] at h ⊢
      simp only at h ⊢
      obtain ⟨h3, h4, _⟩ := rNum_ok ho h
      refine ⟨h3, ?_⟩
      rw [List.length_take, Nat.min_eq_left (by omega), List.take_append_drop]
      exact h4
theorem takeWs_ok : ∀ (n : Nat) (l : List Int) (k : Int), Oct l → (takeWs n l k).2.2 = 0 → k = 0 ∧ l = wsBytes (takeWs n l k).1 ++ (takeWs n l k).2.1 ∧ (takeWs n l k).1.length = n
  | 0, l, k, ho, h => ⟨h, rfl, rfl⟩
  | n + 1, l, k, ho, h => by
    rw [takeWs] at h ⊢
    simp only at h ⊢
    have hb : Oct (rBytes (rCount l k 7).2.1 (rCount l k 7).2.2 16).2.1 := oct_rBytes (oct_rCount ho)
    obtain ⟨h1, h2, h3⟩ := takeWs_ok n _ _ hb h
    obtain ⟨h4, h5⟩ := rBytes_ok (oct_rCount ho) h1
    obtain ⟨h6, m, h7, h8, h9⟩ := rCount_ok ho h4
    refine ⟨h6, ?_, by simp [h3]⟩
    have e : wsBytes (⟨(rCount l k 7).1, (rBytes (rCount l k 7).2.1 (rCount l k 7).2.2 16).1⟩ :: (takeWs n (rBytes (rCount l k 7).2.1 (rCount l k 7).2.2 16).2.1 (rBytes (rCount l k 7).2.1 (rCount l k 7).2.2 16).2.2).1) ++ (takeWs n (rBytes (rCount l k 7).2.1 (rCount l k 7).2.2 16).2.1 (rBytes (rCount l k 7).2.1 (rCount l k 7).2.2 16).2.2).2.1 = form m ++ (form (rBytes (rCount l k 7).2.1 (rCount l k 7).2.2 16).1.length ++ ((rBytes (rCount l k 7).2.1 (rCount l k 7).2.2 16).1 ++ (wsBytes (takeWs n (rBytes (rCount l k 7).2.1 (rCount l k 7).2.2 16).2.1 (rBytes (rCount l k 7).2.1 (rCount l k 7).2.2 16).2.2).1 ++ (takeWs n (rBytes (rCount l k 7).2.1 (rCount l k 7).2.2 16).2.1 (rBytes (rCount l k 7).2.1 (rCount l k 7).2.2 16).2.2).2.1))) := by
      simp [wsBytes, wBytes, h7]
    rw [e, ← h2, ← h5]
    exact h9
theorem read_back {l : List Int} (ho : Oct l) (hd : doneK (readC l 0).2.1 (readC l 0).2.2 = 0) (hr : rightB (readC l 0).1 = true) : bytesC (readC l 0).1 = l := by
  have hd2 : (readC l 0).2.1 = [] ∧ (readC l 0).2.2 = 0 := by
    unfold doneK at hd
    split at hd
    · omega
    · rename_i hn
      refine ⟨?_, hd⟩
      have : ¬ 0 < (readC l 0).2.1.length := fun h => hn ⟨hd, h⟩
      exact List.eq_nil_of_length_eq_zero (by omega)
  have hk := right_kind hr
  have hO := oct_rCount (k := 0) (most := 3) ho
  unfold readC at hd2 hk hr ⊢
  by_cases h1 : (rCount l 0 3).1 = 1
  · rw [if_pos h1] at hd2 hk hr ⊢
    unfold read1 at hd2 ⊢
    simp only at hd2 ⊢
    obtain ⟨a1, a2, a3⟩ := rNum_ok (oct_rCount hO) hd2.2
    obtain ⟨b1, n, b2, b3, b4⟩ := rCount_ok hO a1
    obtain ⟨_, m, c2, c3, c4⟩ := rCount_ok ho b1
    have hm : m = 1 := by omega
    rw [hd2.1] at a2
    simp only [bytesC, if_true, b2]
    have e := c4
    rw [b4, a2, hm] at e
    refine Eq.trans ?_ e.symm
    simp
  · rw [if_neg h1] at hd2 hk hr ⊢
    by_cases h2 : (rCount l 0 3).1 = 2
    · rw [if_pos h2] at hd2 hk hr ⊢
      unfold read2 at hd2 ⊢
      simp only at hd2 ⊢
      obtain ⟨a1, p, a2, a3, a4⟩ := rCount_ok (oct_rCount hO) hd2.2
      obtain ⟨b1, n, b2, b3, b4⟩ := rCount_ok hO a1
      obtain ⟨_, m, c2, c3, c4⟩ := rCount_ok ho b1
      have hm : m = 2 := by omega
      rw [hd2.1] at a4
      simp only [bytesC, if_true, show ¬ (2 : Int) = 1 by omega, if_false, b2, a2]
      have e := c4
      rw [b4, a4, hm] at e
      refine Eq.trans ?_ e.symm
      simp
    · rw [if_neg h2] at hd2 hk hr ⊢
      by_cases h3 : (rCount l 0 3).1 = 3
      · rw [if_pos h3] at hd2 hk hr ⊢
        unfold read3 wsOf at hd2 ⊢
        simp only at hd2 ⊢
        obtain ⟨a1, a2⟩ := rBytes_ok (oct_takeWs _ (oct_rCount hO)) hd2.2
        obtain ⟨b1, b2, b3⟩ := takeWs_ok _ _ _ (oct_rCount hO) a1
        obtain ⟨d1, n, d2, d3, d4⟩ := rCount_ok hO b1
        obtain ⟨_, m, c2, c3, c4⟩ := rCount_ok ho d1
        have hm : m = 3 := by omega
        rw [hd2.1] at a2
        simp only [bytesC, show ¬ (3 : Int) = 1 by omega, show ¬ (3 : Int) = 2 by omega, if_false]
        have e3 : (rCount (rCount l 0 3).2.1 (rCount l 0 3).2.2 8).1.toNat = n := by rw [d2]; rfl
        have e := c4
        rw [d4, b2, a2, hm] at e
        refine Eq.trans ?_ e.symm
        rw [b3, e3]
        simp
      · rw [if_neg h3] at hk
        simp only at hk
        omega
end Go.Proofs.Ytgoghmabhdkdjaa
