/-
  Entries of logs as records of numbers and bytes: which are right, their text and bytes, what is read out of bytes, and that it all goes back.
-/
import Derived.Test.YtigfklcclfpcjaaCmp
import Derived.Test.YtigfklcclfpcjaaPutsS
import Derived.Test.YtigfklcclfpcjaaRef
namespace Go.Proofs.Ytigfklcclfpcjaa
set_option linter.unusedVariables false
set_option linter.unusedSimpArgs false
set_option synthInstance.maxSize 20000
open Go.RowKit

/-- An entry: Writer, Index, Prev, At (T, W), Epoch, Body, Sig. -/
structure Ent where
  w : Int
  i : Int
  p : Int
  t : Int
  u : Int
  n : Int
  b : List Int
  g : Int

theorem Ent.ext' {e f : Ent} (h1 : e.w = f.w) (h2 : e.i = f.i) (h3 : e.p = f.p) (h4 : e.t = f.t) (h5 : e.u = f.u) (h6 : e.n = f.n) (h7 : e.b = f.b) (h8 : e.g = f.g) : e = f := by
  cases e; cases f; simp_all

def EOk (e : Ent) : Prop := I64 e.w ∧ I64 e.i ∧ U64 e.p ∧ I64 e.t ∧ I64 e.u ∧ I64 e.n ∧ U64 e.g ∧ Oct e.b
def ev (e : Ent) (v : Value) : Value := .agg #[.int .i64 e.w, .int .i64 e.i, .int .u64 e.p, .int .i64 e.t, .int .i64 e.u, .int .i64 e.n, v, .int .u64 e.g]
def ec (e : Ent) (v : Value) : List Value := [.int .i64 e.w, .int .i64 e.i, .int .u64 e.p, .int .i64 e.t, .int .i64 e.u, .int .i64 e.n, v, .int .u64 e.g]
def zeroE : Ent := ⟨0, 0, 0, 0, 0, 0, [], 0⟩

abbrev rightE (e : Ent) : Prop := (0 ≤ e.w ∧ e.w ≤ 7) ∧ (0 ≤ e.i ∧ e.i ≤ 199) ∧ (e.p = 0 ↔ e.i = 0) ∧ rightP (e.t, e.u) ∧ e.u = e.w ∧ (-1 ≤ e.n ∧ e.n ≤ 19) ∧ e.b.length ≤ 1100
def rightB (e : Ent) : Bool := decide (rightE e)
theorem rightB_iff (e : Ent) : rightB e = true ↔ rightE e := decide_eq_true_iff

def sameB (e f : Ent) : Bool := decide (e.w = f.w) && decide (e.i = f.i) && decide (e.p = f.p) && decide (e.t = f.t ∧ e.u = f.u) && decide (e.n = f.n) && decide (e.g = f.g) && decide (e.b = f.b)
theorem sameB_iff (e f : Ent) : sameB e f = true ↔ e = f := by
  unfold sameB
  simp only [Bool.and_eq_true, decide_eq_true_eq]
  constructor
  · rintro ⟨⟨⟨⟨⟨⟨h1, h2⟩, h3⟩, h4, h5⟩, h6⟩, h8⟩, h7⟩
    exact Ent.ext' h1 h2 h3 h4 h5 h6 h7 h8
  · rintro rfl
    simp

def textL (e : Ent) : List Int := form e.w.toNat ++ form e.i.toNat ++ form e.p.toNat ++ putS (e.t, e.u) ++ form (zig e.n) ++ form e.b.length ++ e.b
def bytesE (e : Ent) : List Int := textL e ++ form e.g.toNat
def boundL (w i n : Int) : List Int := form w.toNat ++ form i.toNat ++ form (zig n)

def narrowI (n : Int) : Int := max (-2) (min n 20)

/-- What taking an entry makes of a reader. -/
def takeE (l : List Int) (k : Int) : Ent × List Int × Int :=
  let c1 := rCount l k 7
  let c2 := rCount c1.2.1 c1.2.2 199
  let c3 := rNum c2.2.1 c2.2.2
  let c4 := gotS c3.2.1 c3.2.2
  let c5 := rNum c4.2.1 c4.2.2
  let c6 := rBytes c5.2.1 c5.2.2 1100
  let c7 := rNum c6.2.1 c6.2.2
  (⟨c1.1, c2.1, c3.1, c4.1.1, c4.1.2, narrowI (zag c5.1), c6.1, c7.1⟩, c7.2.1, c7.2.2)

def readE (l : List Int) : Ent × Int :=
  if doneK (takeE l 0).2.1 (takeE l 0).2.2 = 0 then (if rightB (takeE l 0).1 then ((takeE l 0).1, 0) else (zeroE, 4)) else (zeroE, doneK (takeE l 0).2.1 (takeE l 0).2.2)

theorem rNum_form {n : Nat} (hn : n < 18446744073709551616) (r : List Int) (k : Int) : rNum (form n ++ r) k = (n, r, k) := by
  unfold rNum
  rw [parse_form n 0 r (by omega) (by omega) (.inl rfl)]
theorem rCount_form {n : Nat} {most : Int} (hn : n < 18446744073709551616) (hm : (n : Int) ≤ most) (r : List Int) (k : Int) : rCount (form n ++ r) k most = ((n : Int), r, k) := by
  unfold rCount
  rw [rNum_form hn]
  dsimp only
  rw [if_neg (by omega)]
theorem rBytes_form {x : List Int} {most : Int} (hx : x.length < 18446744073709551616) (hm : (x.length : Int) ≤ most) (r : List Int) (k : Int) : rBytes (form x.length ++ (x ++ r)) k most = (x, r, k) := by
  unfold rBytes
  rw [rNum_form hx]
  dsimp only
  rw [if_neg (by rw [List.length_append]; omega), if_neg (by omega)]
  simp
theorem gotS_form {s : S} (hs : rightP s) (r : List Int) (k : Int) : gotS (putS s ++ r) k = (s, r, k) := by
  obtain ⟨a, b⟩ := s
  obtain ⟨h1, h2, h3, h4⟩ := hs
  dsimp only at h1 h2 h3 h4
  unfold gotS putS
  dsimp only
  rw [List.append_assoc, rNum_form (zig_lt a (by omega))]
  dsimp only
  rw [rCount_form (by omega) (by omega), zag_zig]
  rw [show ((max b 0).toNat : Int) = b by omega]

theorem take_form {e : Ent} (hr : rightE e) (ho : EOk e) (r : List Int) : takeE (bytesE e ++ r) 0 = (e, r, 0) := by
  obtain ⟨w, i, p, t, u, n, b, g⟩ := e
  obtain ⟨⟨w1, w2⟩, ⟨i1, i2⟩, hp, hs, hu, ⟨n1, n2⟩, hb⟩ := hr
  obtain ⟨_, _, ⟨p1, p2⟩, _, _, _, ⟨g1, g2⟩, hoct⟩ := ho
  dsimp only at *
  have e0 : bytesE ⟨w, i, p, t, u, n, b, g⟩ ++ r = form w.toNat ++ (form i.toNat ++ (form p.toNat ++ (putS (t, u) ++ (form (zig n) ++ (form b.length ++ (b ++ (form g.toNat ++ r))))))) := by
    simp only [bytesE, textL, List.append_assoc]
  rw [e0]
  unfold takeE
  rw [rCount_form (by omega) (by omega)]
  dsimp only
  rw [rCount_form (by omega) (by omega)]
  dsimp only
  rw [rNum_form (by omega)]
  dsimp only
  rw [gotS_form hs]
  dsimp only
  rw [rNum_form (zig_lt n (by omega))]
  dsimp only
  rw [rBytes_form (by omega) (by omega)]
  dsimp only
  rw [rNum_form (by omega), zag_zig]
  have : narrowI n = n := by unfold narrowI; omega
  rw [this]
  simp only [Int.toNat_of_nonneg w1, Int.toNat_of_nonneg i1, Int.toNat_of_nonneg p1, Int.toNat_of_nonneg g1]

theorem bytes_inj {e f : Ent} (hr : rightE e) (ho : EOk e) (hr' : rightE f) (ho' : EOk f) (r r' : List Int) (h : bytesE e ++ r = bytesE f ++ r') : e = f ∧ r = r' := by
  have h1 := take_form hr ho r
  rw [h, take_form hr' ho' r'] at h1
  simp only [Prod.mk.injEq] at h1
  exact ⟨h1.1.symm, h1.2.1.symm⟩
theorem text_inj {e f : Ent} (hr : rightE e) (ho : EOk e) (hr' : rightE f) (ho' : EOk f) (h : textL e = textL f) : ({ e with g := 0 } : Ent) = { f with g := 0 } := by
  have := (bytes_inj (e := { e with g := 0 }) (f := { f with g := 0 }) hr ⟨ho.1, ho.2.1, ho.2.2.1, ho.2.2.2.1, ho.2.2.2.2.1, ho.2.2.2.2.2.1, (by show U64 0; unfold U64; omega), ho.2.2.2.2.2.2.2⟩ hr' ⟨ho'.1, ho'.2.1, ho'.2.2.1, ho'.2.2.2.1, ho'.2.2.2.2.1, ho'.2.2.2.2.2.1, (by show U64 0; unfold U64; omega), ho'.2.2.2.2.2.2.2⟩ [] [] (by
    show textL e ++ form (0 : Int).toNat ++ [] = textL f ++ form (0 : Int).toNat ++ []
    rw [h])).1
  exact this
theorem text_of {e f : Ent} (h : ({ e with g := 0 } : Ent) = { f with g := 0 }) : textL e = textL f := by
  have : textL { e with g := 0 } = textL { f with g := 0 } := by rw [h]
  exact this

theorem rNum_inv {l : List Int} {k : Int} (ho : Oct l) (h : (rNum l k).2.2 = 0) : k = 0 ∧ l = form (rNum l k).1 ++ (rNum l k).2.1 ∧ Oct (rNum l k).2.1 := by
  unfold rNum at h ⊢
  cases hp : parse 0 l with
  | none => rw [hp] at h; dsimp only at h; split at h <;> omega
  | some q =>
    obtain ⟨n, r⟩ := q
    rw [hp] at h
    obtain ⟨_, h2, _, h4⟩ := numAt_some ho hp
    dsimp only at h ⊢
    exact ⟨h, h2, by rw [← h4]; exact ho.drop _⟩
theorem rCount_inv {l : List Int} {k most : Int} (ho : Oct l) (h : (rCount l k most).2.2 = 0) : k = 0 ∧ l = form (rCount l k most).1.toNat ++ (rCount l k most).2.1 ∧ Oct (rCount l k most).2.1 := by
  unfold rCount at h ⊢
  by_cases c : most < ((rNum l k).1 : Int)
  · rw [if_pos c] at h
    dsimp only at h
    split at h <;> omega
  · rw [if_neg c] at h ⊢
    dsimp only at h ⊢
    obtain ⟨h1, h2, h3⟩ := rNum_inv ho h
    refine ⟨h1, ?_, h3⟩
    rw [Int.toNat_natCast]
    exact h2
theorem rBytes_inv {l : List Int} {k most : Int} (ho : Oct l) (h : (rBytes l k most).2.2 = 0) : k = 0 ∧ l = form (rBytes l k most).1.length ++ ((rBytes l k most).1 ++ (rBytes l k most).2.1) ∧ Oct (rBytes l k most).1 ∧ Oct (rBytes l k most).2.1 := by
  unfold rBytes at h ⊢
  by_cases c : (rNum l k).2.1.length < (rNum l k).1
  · rw [if_pos c] at h
    dsimp only at h
    split at h <;> omega
  · rw [if_neg c] at h ⊢
    by_cases c2 : most < ((rNum l k).1 : Int)
    · rw [if_pos c2] at h
      dsimp only at h
      split at h <;> omega
    · rw [if_neg c2] at h ⊢
      dsimp only at h ⊢
      obtain ⟨h1, h2, h3⟩ := rNum_inv ho h
      refine ⟨h1, ?_, h3.take _, h3.drop _⟩
      rw [List.take_append_drop, List.length_take, Nat.min_eq_left (by omega)]
      exact h2
theorem gotS_inv {l : List Int} {k : Int} (ho : Oct l) (h : (gotS l k).2.2 = 0) (hp : 0 ≤ (gotS l k).1.2) : k = 0 ∧ l = putS (gotS l k).1 ++ (gotS l k).2.1 ∧ Oct (gotS l k).2.1 := by
  unfold gotS at h hp ⊢
  dsimp only at h hp ⊢
  by_cases c : (rNum l k).2.2 = 0
  · obtain ⟨h1, h2, h3⟩ := rNum_inv ho c
    obtain ⟨_, h5, h6⟩ := rCount_inv h3 h
    refine ⟨h1, ?_, h6⟩
    unfold putS
    dsimp only
    rw [zig_zag, List.append_assoc, show (max (rCount (rNum l k).2.1 (rNum l k).2.2 7).1 0).toNat = (rCount (rNum l k).2.1 (rNum l k).2.2 7).1.toNat by omega, ← h5]
    exact h2
  · refine absurd ?_ c
    have ho1 : Oct (rNum l k).2.1 := by
      unfold rNum
      cases hp : parse 0 l with
      | none => exact Oct.nil
      | some q =>
        obtain ⟨n, r⟩ := q
        have := (numAt_some ho hp).2.2.2
        dsimp only
        rw [← this]
        exact ho.drop _
    exact (rCount_inv ho1 h).1
theorem rNum_oct {l : List Int} {k : Int} (ho : Oct l) : Oct (rNum l k).2.1 := by
  unfold rNum
  cases hp : parse 0 l with
  | none => exact Oct.nil
  | some q =>
    obtain ⟨n, r⟩ := q
    have := (numAt_some ho hp).2.2.2
    dsimp only
    rw [← this]
    exact ho.drop _
theorem rCount_oct {l : List Int} {k most : Int} (ho : Oct l) : Oct (rCount l k most).2.1 := by
  unfold rCount
  split
  · exact Oct.nil
  · exact rNum_oct ho
theorem gotS_oct {l : List Int} {k : Int} (ho : Oct l) : Oct (gotS l k).2.1 := by
  unfold gotS
  exact rCount_oct (rNum_oct ho)
theorem rBytes_oct {l : List Int} {k most : Int} (ho : Oct l) : Oct (rBytes l k most).1 ∧ Oct (rBytes l k most).2.1 := by
  unfold rBytes
  split
  · exact ⟨Oct.nil, Oct.nil⟩
  · split
    · exact ⟨Oct.nil, Oct.nil⟩
    · exact ⟨(rNum_oct ho).take _, (rNum_oct ho).drop _⟩

theorem take_inv {l : List Int} (ho : Oct l) (h : (takeE l 0).2.2 = 0) (hr : rightE (takeE l 0).1) : l = bytesE (takeE l 0).1 ++ (takeE l 0).2.1 := by
  unfold takeE at h hr ⊢
  dsimp only at h hr ⊢
  obtain ⟨hw, hi, hp, hs, hu, hn, hb⟩ := hr
  dsimp only at hw hi hp hs hu hn hb
  generalize e1 : rCount l 0 7 = c1 at *
  have o1 : Oct c1.2.1 := by rw [← e1]; exact rCount_oct ho
  generalize e2 : rCount c1.2.1 c1.2.2 199 = c2 at *
  have o2 : Oct c2.2.1 := by rw [← e2]; exact rCount_oct o1
  generalize e3 : rNum c2.2.1 c2.2.2 = c3 at *
  have o3 : Oct c3.2.1 := by rw [← e3]; exact rNum_oct o2
  generalize e4 : gotS c3.2.1 c3.2.2 = c4 at *
  have o4 : Oct c4.2.1 := by rw [← e4]; exact gotS_oct o3
  generalize e5 : rNum c4.2.1 c4.2.2 = c5 at *
  have o5 : Oct c5.2.1 := by rw [← e5]; exact rNum_oct o4
  generalize e6 : rBytes c5.2.1 c5.2.2 1100 = c6 at *
  have o6 : Oct c6.2.1 := by rw [← e6]; exact (rBytes_oct o5).2
  generalize e7 : rNum c6.2.1 c6.2.2 = c7 at *
  have i7 := rNum_inv o6 (k := c6.2.2) (by rw [e7]; exact h)
  rw [e7] at i7
  have i6 := rBytes_inv o5 (k := c5.2.2) (most := 1100) (by rw [e6]; exact i7.1)
  rw [e6] at i6
  have i5 := rNum_inv o4 (k := c4.2.2) (by rw [e5]; exact i6.1)
  rw [e5] at i5
  have i4 := gotS_inv o3 (k := c3.2.2) (by rw [e4]; exact i5.1) (by rw [e4]; exact hs.2.2.1)
  rw [e4] at i4
  have i3 := rNum_inv o2 (k := c2.2.2) (by rw [e3]; exact i4.1)
  rw [e3] at i3
  have i2 := rCount_inv o1 (k := c1.2.2) (most := 199) (by rw [e2]; exact i3.1)
  rw [e2] at i2
  have i1 := rCount_inv ho (k := 0) (most := 7) (by rw [e1]; exact i2.1)
  rw [e1] at i1
  have hz : zig (narrowI (zag c5.1)) = c5.1 := by
    have : narrowI (zag c5.1) = zag c5.1 := by unfold narrowI at hn ⊢; omega
    rw [this, zig_zag]
  unfold bytesE textL
  dsimp only
  rw [hz, Int.toNat_natCast, Int.toNat_natCast]
  simp only [List.append_assoc]
  rw [← i7.2.1, ← i6.2.1, ← i5.2.1, show ((c4.1.1, c4.1.2) : S) = c4.1 from rfl, ← i4.2.1, ← i3.2.1, ← i2.2.1, ← i1.2.1]

theorem take_ok {l : List Int} (ho : Oct l) (hr : rightE (takeE l 0).1) : EOk (takeE l 0).1 := by
  have hr' := hr
  unfold takeE at hr ⊢
  dsimp only at hr ⊢
  obtain ⟨hw, hi, hp, ⟨hs1, hs2, hs3, hs4⟩, hu, hn, hb⟩ := hr
  dsimp only at hw hi hp hs1 hs2 hs3 hs4 hu hn hb
  have o1 := rCount_oct (k := 0) (most := 7) ho
  have o2 := rCount_oct (k := (rCount l 0 7).2.2) (most := 199) o1
  have n3 := rnum_lt _ (rCount (rCount l 0 7).2.1 (rCount l 0 7).2.2 199).2.2 o2
  have o3 := rNum_oct (k := (rCount (rCount l 0 7).2.1 (rCount l 0 7).2.2 199).2.2) o2
  generalize rCount l 0 7 = c1 at *
  generalize rCount c1.2.1 c1.2.2 199 = c2 at *
  generalize rNum c2.2.1 c2.2.2 = c3 at *
  have o4 := gotS_oct (k := c3.2.2) o3
  generalize gotS c3.2.1 c3.2.2 = c4 at *
  have o5 := rNum_oct (k := c4.2.2) o4
  generalize rNum c4.2.1 c4.2.2 = c5 at *
  have o6 := rBytes_oct (k := c5.2.2) (most := 1100) o5
  generalize rBytes c5.2.1 c5.2.2 1100 = c6 at *
  have n7 := rnum_lt _ c6.2.2 o6.2
  generalize rNum c6.2.1 c6.2.2 = c7 at *
  refine ⟨?_, ?_, ?_, ?_, ?_, ?_, ?_, o6.1⟩ <;> first | (unfold I64; dsimp only; omega) | (unfold U64; dsimp only; omega)

theorem doneK_zero {l : List Int} {k : Int} (h : doneK l k = 0) : l = [] ∧ k = 0 := by
  unfold doneK at h
  split at h
  · omega
  · rename_i c
    refine ⟨?_, h⟩
    cases l with
    | nil => rfl
    | cons x l => exact absurd ⟨h, by simp⟩ c

theorem read_bytes {e : Ent} (hr : rightE e) (ho : EOk e) : readE (bytesE e) = (e, 0) := by
  have h := take_form hr ho []
  rw [List.append_nil] at h
  unfold readE
  rw [h]
  dsimp only
  rw [if_pos (by rfl), if_pos ((rightB_iff e).2 hr)]
theorem read_inv {l : List Int} (ho : Oct l) (h : (readE l).2 = 0) : rightE (readE l).1 ∧ EOk (readE l).1 ∧ l = bytesE (readE l).1 := by
  unfold readE at h ⊢
  by_cases c : doneK (takeE l 0).2.1 (takeE l 0).2.2 = 0
  · rw [if_pos c] at h ⊢
    by_cases d : rightB (takeE l 0).1 = true
    · rw [if_pos d] at h ⊢
      have hr := (rightB_iff _).1 d
      obtain ⟨h1, h2⟩ := doneK_zero c
      refine ⟨hr, take_ok ho hr, ?_⟩
      have := take_inv ho h2 hr
      rw [h1, List.append_nil] at this
      exact this
    · rw [if_neg d] at h
      dsimp only at h
      omega
  · rw [if_neg c] at h
    dsimp only at h
    exact absurd h c
theorem read_bad {l : List Int} (h : (readE l).2 ≠ 0) : (readE l).1 = zeroE := by
  unfold readE at h ⊢
  by_cases c : doneK (takeE l 0).2.1 (takeE l 0).2.2 = 0
  · rw [if_pos c] at h ⊢
    by_cases d : rightB (takeE l 0).1 = true
    · rw [if_pos d] at h
      exact absurd rfl h
    · rw [if_neg d]
  · rw [if_neg c]
theorem read_cut {e : Ent} (hr : rightE e) (ho : EOk e) {c : Nat} (hc : c < (bytesE e).length) (hoct : Oct (bytesE e)) : (readE ((bytesE e).take c)).2 ≠ 0 := by
  intro h
  obtain ⟨h1, h2, h3⟩ := read_inv (hoct.take c) h
  have h4 := bytes_inj hr ho h1 h2 [] ((bytesE e).drop c) (by rw [← h3, List.take_append_drop, List.append_nil])
  have := congrArg List.length h4.2
  rw [List.length_drop] at this
  simp at this
  omega

theorem bound_inj {w i n x y z : Int} (hw : I64 w) (hi : I64 i) (hn : I64 n) (hx : I64 x) (hy : I64 y) (hz : I64 z) : decide (boundL w i n = boundL x y z) = decide (max w 0 = max x 0 ∧ max i 0 = max y 0 ∧ n = z) := by
  unfold I64 at *
  apply decide_eq_decide.2
  constructor
  · intro h
    unfold boundL at h
    rw [List.append_assoc, List.append_assoc] at h
    have h1 := congrArg (fun q => rNum q 0) h
    rw [rNum_form (by omega), rNum_form (by omega)] at h1
    simp only [Prod.mk.injEq, and_true] at h1
    have h2 := congrArg (fun q => rNum q 0) h1.2
    rw [rNum_form (by omega), rNum_form (by omega)] at h2
    simp only [Prod.mk.injEq, and_true] at h2
    have h3 := congrArg (fun q => rNum (q ++ []) 0) h2.2
    rw [rNum_form (zig_lt n (by omega)), rNum_form (zig_lt z (by omega))] at h3
    simp only [Prod.mk.injEq, and_true] at h3
    have h4 := congrArg zag h3
    rw [zag_zig, zag_zig] at h4
    exact ⟨by omega, by omega, h4⟩
  · rintro ⟨h1, h2, rfl⟩
    unfold boundL
    rw [show w.toNat = x.toNat by omega, show i.toNat = y.toNat by omega]

theorem text_len {e : Ent} (ho : EOk e) (hb : e.b.length ≤ 100000000) : (textL e).length ≤ 70 + e.b.length := by
  obtain ⟨h1, h2, ⟨_, h3⟩, h4, h5, h6, _, _⟩ := ho
  unfold I64 at h1 h2
  have e1 := form_le10 (n := e.w.toNat) (by omega)
  have e2 := form_le10 (n := e.i.toNat) (by omega)
  have e3 := form_le10 (n := e.p.toNat) (by omega)
  have e4 := putS_len (e.t, e.u) ⟨h4, h5⟩
  have e5 := form_le10 (n := zig e.n) (zig_lt _ h6)
  unfold textL
  simp only [List.length_append]
  have e6 := form_le10 (n := e.b.length) (by omega)
  omega
end Go.Proofs.Ytigfklcclfpcjaa
