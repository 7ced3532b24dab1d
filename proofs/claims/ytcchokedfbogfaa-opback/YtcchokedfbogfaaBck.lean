/-
  What is put is taken back, and what is taken was put.
-/
import Derived.Test.YtcchokedfbogfaaAlv
namespace Go.Proofs.Ytcchokedfbogfaa
set_option linter.unusedVariables false
set_option linter.unusedSimpArgs false
set_option synthInstance.maxSize 20000
set_option maxHeartbeats 2000000
set_option maxRecDepth 20000
open Go.RowKit Go.Maps

theorem rNum_form (n : Nat) (r : List Int) (hn : n < 18446744073709551616) : rNum (form n ++ r) 0 = (n, r, 0) := by
  unfold rNum
  rw [parse_form n 0 r (by omega) (by simpa using hn) (.inl rfl)]
theorem rNum_back {l r : List Int} {k : Int} {n : Nat} (ho : Oct l) (h : rNum l k = (n, r, 0)) : k = 0 ∧ l = form n ++ r ∧ n < 18446744073709551616 ∧ Oct r := by
  unfold rNum at h
  cases hp : parse 0 l with
  | none =>
    rw [hp] at h
    simp only [Prod.mk.injEq] at h
    obtain ⟨_, _, h3⟩ := h
    split at h3
    · omega
    · omega
  | some q =>
    rw [hp] at h
    obtain ⟨a, b⟩ := q
    simp only [Prod.mk.injEq] at h
    obtain ⟨rfl, rfl, rfl⟩ := h
    have := numAt_some ho hp
    refine ⟨rfl, this.2.1, this.2.2.1, ?_⟩
    have h2 := this.2.1
    rw [h2] at ho
    exact ho.of_append.2
theorem rCount_form (n : Nat) (r : List Int) (m : Int) (hn : n < 18446744073709551616) (hm : (n : Int) ≤ m) : rCount (form n ++ r) 0 m = ((n : Int), r, 0) := by
  unfold rCount
  rw [rNum_form n r hn, if_neg (by dsimp only; omega)]
theorem rCount_back {l r : List Int} {k m c : Int} (ho : Oct l) (h : rCount l k m = (c, r, 0)) : ∃ n : Nat, c = (n : Int) ∧ k = 0 ∧ l = form n ++ r ∧ (n : Int) ≤ m ∧ Oct r := by
  unfold rCount at h
  obtain ⟨n, l2, k2, e⟩ : ∃ n l2 k2, rNum l k = (n, l2, k2) := ⟨_, _, _, rfl⟩
  rw [e] at h
  dsimp only at h
  split at h
  · simp only [Prod.mk.injEq] at h
    obtain ⟨_, _, h3⟩ := h
    split at h3 <;> omega
  · simp only [Prod.mk.injEq] at h
    obtain ⟨rfl, rfl, rfl⟩ := h
    obtain ⟨h1, h2, _, h4⟩ := rNum_back ho e
    exact ⟨n, rfl, h1, h2, by omega, h4⟩
theorem rBytes_form (x r : List Int) (m : Int) (hx : x.length < 18446744073709551616) (hm : (x.length : Int) ≤ m) : rBytes (form x.length ++ (x ++ r)) 0 m = (x, r, 0) := by
  unfold rBytes
  rw [rNum_form _ _ hx, if_neg (by dsimp only; simp), if_neg (by dsimp only; omega)]
  simp
theorem rBytes_back {l r x : List Int} {k m : Int} (ho : Oct l) (h : rBytes l k m = (x, r, 0)) : k = 0 ∧ l = form x.length ++ (x ++ r) ∧ (x.length : Int) ≤ m ∧ Oct r ∧ Oct x := by
  unfold rBytes at h
  obtain ⟨n, l2, k2, e⟩ : ∃ n l2 k2, rNum l k = (n, l2, k2) := ⟨_, _, _, rfl⟩
  rw [e] at h
  dsimp only at h
  split at h
  · simp only [Prod.mk.injEq] at h
    obtain ⟨_, _, h3⟩ := h
    split at h3 <;> omega
  · split at h
    · simp only [Prod.mk.injEq] at h
      obtain ⟨_, _, h3⟩ := h
      split at h3 <;> omega
    · simp only [Prod.mk.injEq] at h
      obtain ⟨rfl, rfl, rfl⟩ := h
      obtain ⟨h1, h2, _, h4⟩ := rNum_back ho e
      have hl : (l2.take n).length = n := by rw [List.length_take]; omega
      refine ⟨h1, ?_, by rw [hl]; omega, h4.drop _, h4.take _⟩
      rw [hl, List.take_append_drop]
      exact h2
theorem rBool_form (d : Bool) (r : List Int) : rBool ([if d then 1 else 0] ++ r) 0 = (d, r, 0) := by
  unfold rBool
  cases d
  · have := rNum_form 0 r (by omega)
    rw [form_lt (by omega)] at this
    simp at this ⊢
    rw [this]
    simp
  · have := rNum_form 1 r (by omega)
    rw [form_lt (by omega)] at this
    simp at this ⊢
    rw [this]
    simp
theorem rBool_back {l r : List Int} {k : Int} {d : Bool} (ho : Oct l) (h : rBool l k = (d, r, 0)) : k = 0 ∧ l = [if d then 1 else 0] ++ r ∧ Oct r := by
  unfold rBool at h
  obtain ⟨n, l2, k2, e⟩ : ∃ n l2 k2, rNum l k = (n, l2, k2) := ⟨_, _, _, rfl⟩
  rw [e] at h
  dsimp only at h
  split at h
  · simp only [Prod.mk.injEq] at h
    obtain ⟨_, _, h3⟩ := h
    split at h3 <;> omega
  · simp only [Prod.mk.injEq] at h
    obtain ⟨rfl, rfl, rfl⟩ := h
    obtain ⟨h1, h2, _, h4⟩ := rNum_back ho e
    refine ⟨h1, ?_, h4⟩
    rw [h2]
    have : n = 0 ∨ n = 1 := by omega
    rcases this with rfl | rfl
    · rw [form_lt (by omega)]; simp
    · rw [form_lt (by omega)]; simp
theorem gotS_form (s : S) (r : List Int) (h1 : I64 s.1) (h2 : 0 ≤ s.2 ∧ s.2 ≤ 7) : gotS (putS s ++ r) 0 = (s, r, 0) := by
  unfold gotS putS
  rw [List.append_assoc, rNum_form _ _ (zig_lt s.1 h1)]
  dsimp only
  have e : (max s.2 0).toNat = s.2.toNat := by omega
  rw [e, rCount_form s.2.toNat r 7 (by omega) (by omega), zag_zig]
  obtain ⟨a, b⟩ := s
  dsimp only at *
  rw [Int.toNat_of_nonneg h2.1]
theorem gotS_back {l r : List Int} {k : Int} {s : S} (ho : Oct l) (h : gotS l k = (s, r, 0)) : k = 0 ∧ l = putS s ++ r ∧ SOk s ∧ Oct r := by
  unfold gotS at h
  obtain ⟨n, l2, k2, e⟩ : ∃ n l2 k2, rNum l k = (n, l2, k2) := ⟨_, _, _, rfl⟩
  rw [e] at h
  dsimp only at h
  obtain ⟨c, l3, k3, e2⟩ : ∃ c l3 k3, rCount l2 k2 7 = (c, l3, k3) := ⟨_, _, _, rfl⟩
  rw [e2] at h
  simp only [Prod.mk.injEq] at h
  obtain ⟨rfl, rfl, rfl⟩ := h
  have ho2 : Oct l2 := by have := rNum_oct l k ho; rw [e] at this; exact this
  obtain ⟨m, rfl, hk2, hl2, hm, ho3⟩ := rCount_back ho2 e2
  subst hk2
  obtain ⟨hk, hl, hn, _⟩ := rNum_back ho e
  refine ⟨hk, ?_, ?_, ho3⟩
  · unfold putS
    rw [zig_zag, show (max (m : Int) 0).toNat = m by omega, hl, hl2, List.append_assoc]
  · unfold SOk I64 zag
    dsimp only
    split <;> omega
theorem str_sb (s : ByteArray) : strOfNums (sb s) = s := by
  apply WideShapes.bytes_inj
  rw [strOfNums_data, sb, List.map_map]
  conv => rhs; rw [← List.map_id s.data.toList]
  apply List.map_congr_left
  intro b _
  simp
theorem Bare.of {q : OpT} (h : bareB q = true) : rightB q.n = true ∧ q.p = (0, 0) ∧ q.s = ⟨#[]⟩ ∧ q.d = false := by
  unfold bareB at h
  simp only [Bool.and_eq_true, Bool.not_eq_true', beq_iff_eq] at h
  obtain ⟨⟨⟨h1, h2⟩, h3⟩, h4⟩ := h
  refine ⟨h1, (sameAt_iff _ _).1 h2, ?_, h4⟩
  apply WideShapes.bytes_inj
  rw [← ByteArray.toList_eq, h3]
theorem Placed.of {q : OpT} (h : placedB q = true) : (q.p = (0, 0) ∨ rightB q.p = true) ∧ nameB q.s = true ∧ q.vn = 0 := by
  unfold placedB at h
  simp only [Bool.and_eq_true, Bool.or_eq_true, beq_iff_eq] at h
  exact ⟨h.1.1.imp_left (sameAt_iff _ _).1, h.1.2, by omega⟩
theorem right_ok {s : S} (h : rightB s = true) : I64 s.1 ∧ 0 ≤ s.2 ∧ s.2 ≤ 7 := by
  unfold rightB at h
  have := of_decide_eq_true h
  unfold I64
  unfold rightP at this
  omega
theorem zero_ok {s : S} (h : s = (0, 0)) : I64 s.1 ∧ 0 ≤ s.2 ∧ s.2 ≤ 7 := by
  subst h
  unfold I64
  decide +kernel
theorem tk59_form (s : S) (r : List Int) (q : OpT) (h : I64 s.1 ∧ 0 ≤ s.2 ∧ s.2 ≤ 7) : tkM 59 (putS s ++ r, 0, q) = (r, 0, { q with n := s }) := by
  unfold tkM
  rw [if_pos rfl]
  dsimp only
  rw [gotS_form s r h.1 h.2]
theorem tk61_form (s : S) (r : List Int) (q : OpT) (h : I64 s.1 ∧ 0 ≤ s.2 ∧ s.2 ≤ 7) : tkM 61 (putS s ++ r, 0, q) = (r, 0, { q with p := s }) := by
  unfold tkM
  rw [if_neg (by omega), if_pos rfl]
  dsimp only
  rw [gotS_form s r h.1 h.2]
theorem tk63_form (s : ByteArray) (r : List Int) (q : OpT) (h : s.size ≤ 24) : tkM 63 (form s.size ++ (sb s ++ r), 0, q) = (r, 0, { q with s := s }) := by
  unfold tkM
  rw [if_neg (by omega), if_neg (by omega), if_pos rfl]
  dsimp only
  have := rBytes_form (sb s) r 24 (by rw [sb_length]; omega) (by rw [sb_length]; omega)
  rw [sb_length] at this
  rw [this]
  dsimp only
  rw [str_sb]
theorem tk65_form (d : Bool) (r : List Int) (q : OpT) : tkM 65 ([if d then 1 else 0] ++ r, 0, q) = (r, 0, { q with d := d }) := by
  unfold tkM
  rw [if_neg (by omega), if_neg (by omega), if_neg (by omega), if_pos rfl]
  dsimp only
  rw [rBool_form]
theorem tk67_form (b : List Int) (r : List Int) (q : OpT) (h : b.length ≤ 400) : tkM 67 (form b.length ++ (b ++ r), 0, q) = (r, 0, { q with b := b }) := by
  unfold tkM
  rw [if_neg (by omega), if_neg (by omega), if_neg (by omega), if_neg (by omega)]
  dsimp only
  rw [rBytes_form b r 400 (by omega) (by omega)]
/-- An operation without its content's place. -/
def qn (q : OpT) : OpT := { q with va := none, vn := 0, vc := 0 }
theorem stE_kind {l : List Int} {t : S} {c : Int} {l0 : List Int} (h : rCount l 0 4 = (c, l0, 0)) : stE l t = (takesF c).foldl (fun s f => tkM f s) (l0, 0, ⟨c, t, t, (0, 0), false, ⟨#[]⟩, none, 0, 0, []⟩) := by
  unfold stE st0
  rw [h]
theorem fold1 (s : Rst) : (takesF 1).foldl (fun s f => tkM f s) s = tkM 63 (tkM 65 (tkM 61 s)) := rfl
theorem fold2 (s : Rst) : (takesF 2).foldl (fun s f => tkM f s) s = tkM 63 (tkM 61 (tkM 59 s)) := rfl
theorem fold3 (s : Rst) : (takesF 3).foldl (fun s f => tkM f s) s = tkM 59 s := rfl
theorem fold4 (s : Rst) : (takesF 4).foldl (fun s f => tkM f s) s = tkM 67 (tkM 59 s) := rfl
theorem text1 {q : OpT} (h : q.k = 1) : textL q = form 1 ++ (putS q.p ++ ([if q.d then 1 else 0] ++ (form q.s.size ++ sb q.s))) := by
  unfold textL
  rw [h]
  show form 1 ++ (putX 60 q ++ (putX 64 q ++ (putX 62 q ++ []))) = _
  rw [List.append_nil]
  rfl
theorem text2 {q : OpT} (h : q.k = 2) : textL q = form 2 ++ (putS q.n ++ (putS q.p ++ (form q.s.size ++ sb q.s))) := by
  unfold textL
  rw [h]
  show form 2 ++ (putX 58 q ++ (putX 60 q ++ (putX 62 q ++ []))) = _
  rw [List.append_nil]
  rfl
theorem text3 {q : OpT} (h : q.k = 3) : textL q = form 3 ++ putS q.n := by
  unfold textL
  rw [h]
  show form 3 ++ (putX 58 q ++ []) = _
  rw [List.append_nil]
  rfl
theorem text4 {q : OpT} (h : q.k = 4) : textL q = form 4 ++ (putS q.n ++ (form q.b.length ++ q.b)) := by
  unfold textL
  rw [h]
  show form 4 ++ (putX 58 q ++ (putX 66 q ++ [])) = _
  rw [List.append_nil]
  rfl
theorem stE_text {q : OpT} (hr : RightO q) (hb : q.vn = q.b.length) (r : List Int) : stE (textL q ++ r) q.a = (r, 0, qn q) := by
  obtain ⟨k, a, n, p, d, s, va, vn, vc, b⟩ := q
  have hka := hr.kind
  dsimp only at hka hb
  rcases hka with ⟨rfl, rfl, hp⟩ | ⟨rfl, hn, hp, rfl⟩ | ⟨rfl, hp, hv⟩ | ⟨rfl, hp, hv⟩
  · obtain ⟨h1, h2, h3⟩ := Placed.of hp
    dsimp only at h1 h2 h3
    have hbn : b = [] := List.eq_nil_of_length_eq_zero (by omega)
    subst hbn
    rw [text1 rfl]
    dsimp only
    simp only [List.append_assoc]
    rw [stE_kind (rCount_form 1 _ 4 (by omega) (by omega))]
    rw [show ((1 : Nat) : Int) = 1 from rfl, fold1, tk61_form p _ _ (h1.elim zero_ok right_ok), tk65_form, tk63_form s _ _ (name_size h2).2]
    rfl
  · obtain ⟨h1, h2, h3⟩ := Placed.of hp
    dsimp only at h1 h2 h3 hn
    have hbn : b = [] := List.eq_nil_of_length_eq_zero (by omega)
    subst hbn
    rw [text2 rfl]
    dsimp only
    simp only [List.append_assoc]
    rw [stE_kind (rCount_form 2 _ 4 (by omega) (by omega))]
    rw [show ((2 : Nat) : Int) = 2 from rfl, fold2, tk59_form n _ _ (right_ok hn), tk61_form p _ _ (h1.elim zero_ok right_ok), tk63_form s _ _ (name_size h2).2]
    rfl
  · obtain ⟨h1, h2, h3, h4⟩ := Bare.of hp
    dsimp only at h1 h2 h3 h4 hv
    subst h2 h3 h4
    have hbn : b = [] := List.eq_nil_of_length_eq_zero (by omega)
    subst hbn
    rw [text3 rfl]
    dsimp only
    simp only [List.append_assoc]
    rw [stE_kind (rCount_form 3 _ 4 (by omega) (by omega))]
    rw [show ((3 : Nat) : Int) = 3 from rfl, fold3, tk59_form n _ _ (right_ok h1)]
    rfl
  · obtain ⟨h1, h2, h3, h4⟩ := Bare.of hp
    dsimp only at h1 h2 h3 h4 hv
    subst h2 h3 h4
    rw [text4 rfl]
    dsimp only
    simp only [List.append_assoc]
    rw [stE_kind (rCount_form 4 _ 4 (by omega) (by omega))]
    rw [show ((4 : Nat) : Int) = 4 from rfl, fold4, tk59_form n _ _ (right_ok h1), tk67_form b _ _ (by omega)]
    rfl
theorem tk59_back {l l' : List Int} {k : Int} {q q' : OpT} (ho : Oct l) (h : tkM 59 (l, k, q) = (l', 0, q')) : k = 0 ∧ Oct l' ∧ ∃ x, q' = { q with n := x } ∧ l = putS x ++ l' ∧ SOk x := by
  unfold tkM at h
  rw [if_pos rfl] at h
  dsimp only at h
  obtain ⟨x, r, j, e⟩ : ∃ x r j, gotS l k = (x, r, j) := ⟨_, _, _, rfl⟩
  rw [e] at h
  simp only [Prod.mk.injEq] at h
  obtain ⟨rfl, rfl, rfl⟩ := h
  obtain ⟨h1, h2, h3, h4⟩ := gotS_back ho e
  exact ⟨h1, h4, x, rfl, h2, h3⟩
theorem tk61_back {l l' : List Int} {k : Int} {q q' : OpT} (ho : Oct l) (h : tkM 61 (l, k, q) = (l', 0, q')) : k = 0 ∧ Oct l' ∧ ∃ x, q' = { q with p := x } ∧ l = putS x ++ l' ∧ SOk x := by
  unfold tkM at h
  rw [if_neg (by omega), if_pos rfl] at h
  dsimp only at h
  obtain ⟨x, r, j, e⟩ : ∃ x r j, gotS l k = (x, r, j) := ⟨_, _, _, rfl⟩
  rw [e] at h
  simp only [Prod.mk.injEq] at h
  obtain ⟨rfl, rfl, rfl⟩ := h
  obtain ⟨h1, h2, h3, h4⟩ := gotS_back ho e
  exact ⟨h1, h4, x, rfl, h2, h3⟩
theorem tk63_back {l l' : List Int} {k : Int} {q q' : OpT} (ho : Oct l) (h : tkM 63 (l, k, q) = (l', 0, q')) : k = 0 ∧ Oct l' ∧ ∃ x : ByteArray, q' = { q with s := x } ∧ l = form x.size ++ (sb x ++ l') ∧ x.size ≤ 24 := by
  unfold tkM at h
  rw [if_neg (by omega), if_neg (by omega), if_pos rfl] at h
  dsimp only at h
  obtain ⟨x, r, j, e⟩ : ∃ x r j, rBytes l k 24 = (x, r, j) := ⟨_, _, _, rfl⟩
  rw [e] at h
  simp only [Prod.mk.injEq] at h
  obtain ⟨rfl, rfl, rfl⟩ := h
  obtain ⟨h1, h2, h3, h4, h5⟩ := rBytes_back ho e
  refine ⟨h1, h4, strOfNums x, rfl, ?_, by rw [strOfNums_size]; omega⟩
  rw [strOfNums_size, sb_strOfNums x h5]
  exact h2
theorem tk65_back {l l' : List Int} {k : Int} {q q' : OpT} (ho : Oct l) (h : tkM 65 (l, k, q) = (l', 0, q')) : k = 0 ∧ Oct l' ∧ ∃ x : Bool, q' = { q with d := x } ∧ l = [if x then 1 else 0] ++ l' := by
  unfold tkM at h
  rw [if_neg (by omega), if_neg (by omega), if_neg (by omega), if_pos rfl] at h
  dsimp only at h
  obtain ⟨x, r, j, e⟩ : ∃ x r j, rBool l k = (x, r, j) := ⟨_, _, _, rfl⟩
  rw [e] at h
  simp only [Prod.mk.injEq] at h
  obtain ⟨rfl, rfl, rfl⟩ := h
  obtain ⟨h1, h2, h3⟩ := rBool_back ho e
  exact ⟨h1, h3, x, rfl, h2⟩
theorem tk67_back {l l' : List Int} {k : Int} {q q' : OpT} (ho : Oct l) (h : tkM 67 (l, k, q) = (l', 0, q')) : k = 0 ∧ Oct l' ∧ ∃ x : List Int, q' = { q with b := x } ∧ l = form x.length ++ (x ++ l') ∧ x.length ≤ 400 := by
  unfold tkM at h
  rw [if_neg (by omega), if_neg (by omega), if_neg (by omega), if_neg (by omega)] at h
  dsimp only at h
  obtain ⟨x, r, j, e⟩ : ∃ x r j, rBytes l k 400 = (x, r, j) := ⟨_, _, _, rfl⟩
  rw [e] at h
  simp only [Prod.mk.injEq] at h
  obtain ⟨rfl, rfl, rfl⟩ := h
  obtain ⟨h1, h2, h3, h4, h5⟩ := rBytes_back ho e
  exact ⟨h1, h4, x, rfl, h2, by omega⟩
/-- What is read has that text. -/
structure BackQ (l : List Int) (t : S) (q : OpT) : Prop where
  at_ : q.a = t
  text : q.k ≠ 0 → textL q = l
  n : SOk q.n
  p : SOk q.p
  k : 0 ≤ q.k ∧ q.k ≤ 4
  s : q.s.size ≤ 24
  b : q.b.length ≤ 400
theorem sok0 : SOk (0, 0) := by unfold SOk I64; decide +kernel
theorem stE_back {l : List Int} {t : S} {q : OpT} (ho : Oct l) (ht : SOk t) (h : stE l t = ([], 0, q)) : BackQ l t q := by
  unfold stE st0 at h
  obtain ⟨c, l0, k0, e⟩ : ∃ c l0 k0, rCount l 0 4 = (c, l0, k0) := ⟨_, _, _, rfl⟩
  have ho0 : Oct l0 := by have := rCount_oct l 0 4 ho; rw [e] at this; exact this
  rw [e] at h
  dsimp only at h
  by_cases c1 : c = 1
  · subst c1
    have h : tkM 63 (tkM 65 (tkM 61 (l0, k0, ⟨1, t, t, (0, 0), false, ⟨#[]⟩, none, 0, 0, []⟩))) = ([], 0, q) := h
    obtain ⟨l1, k1, q1, e1⟩ : ∃ l1 k1 q1, tkM 61 (l0, k0, ⟨1, t, t, (0, 0), false, ⟨#[]⟩, none, 0, 0, []⟩) = (l1, k1, q1) := ⟨_, _, _, rfl⟩
    have o1 : Oct l1 := by have := tkM_oct 61 (l0, k0, ⟨1, t, t, (0, 0), false, ⟨#[]⟩, none, 0, 0, []⟩) ho0; rw [e1] at this; exact this
    rw [e1] at h
    obtain ⟨l2, k2, q2, e2⟩ : ∃ l2 k2 q2, tkM 65 (l1, k1, q1) = (l2, k2, q2) := ⟨_, _, _, rfl⟩
    have o2 : Oct l2 := by have := tkM_oct 65 (l1, k1, q1) o1; rw [e2] at this; exact this
    rw [e2] at h
    obtain ⟨rfl, _, x3, rfl, hl3, hs3⟩ := tk63_back o2 h
    obtain ⟨rfl, _, x2, rfl, hl2⟩ := tk65_back o1 e2
    obtain ⟨rfl, _, x1, rfl, hl1, hs1⟩ := tk61_back ho0 e1
    obtain ⟨n, hn, _, hl0, _, _⟩ := rCount_back ho e
    refine ⟨rfl, fun _ => ?_, ht, hs1, by dsimp only; omega, hs3, by simp⟩
    rw [text1 rfl]
    dsimp only
    obtain rfl : n = 1 := by omega
    rw [hl0, hl1, hl2, hl3]
    simp
  · by_cases c2 : c = 2
    · subst c2
      have h : tkM 63 (tkM 61 (tkM 59 (l0, k0, ⟨2, t, t, (0, 0), false, ⟨#[]⟩, none, 0, 0, []⟩))) = ([], 0, q) := h
      obtain ⟨l1, k1, q1, e1⟩ : ∃ l1 k1 q1, tkM 59 (l0, k0, ⟨2, t, t, (0, 0), false, ⟨#[]⟩, none, 0, 0, []⟩) = (l1, k1, q1) := ⟨_, _, _, rfl⟩
      have o1 : Oct l1 := by have := tkM_oct 59 (l0, k0, ⟨2, t, t, (0, 0), false, ⟨#[]⟩, none, 0, 0, []⟩) ho0; rw [e1] at this; exact this
      rw [e1] at h
      obtain ⟨l2, k2, q2, e2⟩ : ∃ l2 k2 q2, tkM 61 (l1, k1, q1) = (l2, k2, q2) := ⟨_, _, _, rfl⟩
      have o2 : Oct l2 := by have := tkM_oct 61 (l1, k1, q1) o1; rw [e2] at this; exact this
      rw [e2] at h
      obtain ⟨rfl, _, x3, rfl, hl3, hs3⟩ := tk63_back o2 h
      obtain ⟨rfl, _, x2, rfl, hl2, hs2⟩ := tk61_back o1 e2
      obtain ⟨rfl, _, x1, rfl, hl1, hs1⟩ := tk59_back ho0 e1
      obtain ⟨n, hn, _, hl0, _, _⟩ := rCount_back ho e
      refine ⟨rfl, fun _ => ?_, hs1, hs2, by dsimp only; omega, hs3, by simp⟩
      rw [text2 rfl]
      dsimp only
      obtain rfl : n = 2 := by omega
      rw [hl0, hl1, hl2, hl3]
      simp
    · by_cases c3 : c = 3
      · subst c3
        have h : tkM 59 (l0, k0, ⟨3, t, t, (0, 0), false, ⟨#[]⟩, none, 0, 0, []⟩) = ([], 0, q) := h
        obtain ⟨rfl, _, x1, rfl, hl1, hs1⟩ := tk59_back ho0 h
        obtain ⟨n, hn, _, hl0, _, _⟩ := rCount_back ho e
        refine ⟨rfl, fun _ => ?_, hs1, sok0, by dsimp only; omega, Nat.zero_le 24, by simp⟩
        rw [text3 rfl]
        dsimp only
        obtain rfl : n = 3 := by omega
        rw [hl0, hl1, List.append_nil]
      · by_cases c4 : c = 4
        · subst c4
          have h : tkM 67 (tkM 59 (l0, k0, ⟨4, t, t, (0, 0), false, ⟨#[]⟩, none, 0, 0, []⟩)) = ([], 0, q) := h
          obtain ⟨l1, k1, q1, e1⟩ : ∃ l1 k1 q1, tkM 59 (l0, k0, ⟨4, t, t, (0, 0), false, ⟨#[]⟩, none, 0, 0, []⟩) = (l1, k1, q1) := ⟨_, _, _, rfl⟩
          have o1 : Oct l1 := by have := tkM_oct 59 (l0, k0, ⟨4, t, t, (0, 0), false, ⟨#[]⟩, none, 0, 0, []⟩) ho0; rw [e1] at this; exact this
          rw [e1] at h
          obtain ⟨rfl, _, x2, rfl, hl2, hs2⟩ := tk67_back o1 h
          obtain ⟨rfl, _, x1, rfl, hl1, hs1⟩ := tk59_back ho0 e1
          obtain ⟨n, hn, _, hl0, _, _⟩ := rCount_back ho e
          refine ⟨rfl, fun _ => ?_, hs1, sok0, by dsimp only; omega, Nat.zero_le 24, hs2⟩
          rw [text4 rfl]
          dsimp only
          obtain rfl : n = 4 := by omega
          rw [hl0, hl1, hl2]
          simp
        · unfold takesF at h
          rw [if_neg c1, if_neg c2, if_neg c3, if_neg c4] at h
          have h : (l0, k0, (⟨c, t, t, (0, 0), false, ⟨#[]⟩, none, 0, 0, []⟩ : OpT)) = ([], 0, q) := h
          simp only [Prod.mk.injEq] at h
          obtain ⟨rfl, rfl, rfl⟩ := h
          obtain ⟨n, hn, _, hl0, hm, _⟩ := rCount_back ho e
          exact ⟨rfl, fun h0 => absurd (show c = 0 by omega) h0, ht, sok0, by dsimp only; omega, Nat.zero_le 24, by simp⟩
/-- The three that the law asks. -/
theorem read_text {q : OpT} (hr : rightO q = true) (hb : q.vn = q.b.length) : readM (textL q) q.a = (qn q, 0) := by
  have h := stE_text ((rightO_iff q).1 hr) hb []
  rw [List.append_nil] at h
  unfold readM
  rw [h]
  rw [if_neg (by simp [doneK])]
  have e : rightO (qv (qn q) none 0) = rightO { q with va := none, vc := 0 } := by
    show rightO { q with va := none, vn := q.b.length, vc := 0 } = _
    rw [← hb]
  have e2 : rightO { q with va := none, vc := 0 } = rightO q := rfl
  show (if rightO (qv (qn q) none 0) = true then (qn q, (0 : Int)) else (oz, 4)) = _
  rw [if_pos (by rw [e, e2]; exact hr)]
theorem readM_ok {l : List Int} {t : S} (h : (readM l t).2 = 0) : stE l t = ([], 0, (readM l t).1) ∧ rightO (qv (readM l t).1 none 0) = true := by
  unfold readM at h ⊢
  by_cases h1 : doneK (stE l t).1 (stE l t).2.1 ≠ 0
  · rw [if_pos h1] at h
    exact absurd h h1
  · rw [if_neg h1] at h ⊢
    by_cases h2 : rightO (qv (stE l t).2.2 none 0) = true
    · rw [if_pos h2] at h ⊢
      refine ⟨?_, h2⟩
      have h3 : doneK (stE l t).1 (stE l t).2.1 = 0 := by omega
      unfold doneK at h3
      obtain ⟨a, b, c, e⟩ : ∃ a b c, stE l t = (a, b, c) := ⟨_, _, _, rfl⟩
      rw [e] at h3 ⊢
      dsimp only at h3 ⊢
      split at h3
      · omega
      · rename_i hn
        subst h3
        have : a = [] := by simpa using hn
        rw [this]
    · rw [if_neg h2] at h
      simp at h
theorem readM_back {l : List Int} {t : S} (ho : Oct l) (ht : SOk t) (h : (readM l t).2 = 0) : BackQ l t (readM l t).1 ∧ rightO (qv (readM l t).1 none 0) = true ∧ textL (qv (readM l t).1 none 0) = l := by
  obtain ⟨h1, h2⟩ := readM_ok h
  have hB := stE_back ho ht h1
  refine ⟨hB, h2, ?_⟩
  have hk : (readM l t).1.k ≠ 0 := fun h0 => by
    have := ((rightO_iff _).1 h2).kind
    have e : (qv (readM l t).1 none 0).k = (readM l t).1.k := rfl
    rcases this with ⟨k, _⟩ | ⟨k, _⟩ | ⟨k, _⟩ | ⟨k, _⟩ <;> omega
  have := hB.text hk
  exact this
theorem textL_qn (q : OpT) (va : Option Addr) (vn vc : Nat) : textL { q with va := va, vn := vn, vc := vc } = textL q := rfl
theorem read_cut {q : OpT} {c : Nat} (hr : rightO q = true) (hb : q.vn = q.b.length) (hq : SOk q.a) (hc : c < (textL q).length) (ho : Oct (textL q)) : (readM ((textL q).take c) q.a).2 ≠ 0 := fun h => by
  obtain ⟨hB, h1, h2⟩ := readM_back (ho.take c) hq h
  generalize readM ((textL q).take c) q.a = R at *
  have hs := stE_text ((rightO_iff _).1 h1) rfl ((textL q).drop c)
  rw [h2, List.take_append_drop, show (qv R.1 none 0).a = q.a from hB.at_] at hs
  have hf := read_text hr hb
  have hne : ¬ ((textL q).drop c).length = 0 := by rw [List.length_drop]; omega
  unfold readM at hf
  rw [hs] at hf
  dsimp only at hf
  have hd : doneK ((textL q).drop c) 0 = 4 := by unfold doneK; rw [if_pos ⟨rfl, by omega⟩]
  rw [hd, if_pos (by omega)] at hf
  simp at hf
theorem textL_oct (q : OpT) (hb : Oct q.b) : Oct (textL q) := by
  unfold textL
  refine Oct.append (form_oct _) ?_
  intro x hx
  rw [List.mem_flatten] at hx
  obtain ⟨y, hy, hx⟩ := hx
  rw [List.mem_map] at hy
  obtain ⟨f, _, rfl⟩ := hy
  have key : Oct (putX f q) := by
    have hs : ∀ s, Oct (putS s) := fun s => Oct.append (form_oct _) (form_oct _)
    unfold putX
    split
    · exact hs _
    · split
      · exact hs _
      · split
        · exact Oct.append (form_oct _) (sb_oct _)
        · split
          · intro z hz
            simp at hz
            subst hz
            split <;> omega
          · exact Oct.append (form_oct _) hb
  exact key x hx
theorem readM_bad {l : List Int} {t : S} (h : (readM l t).2 ≠ 0) : (readM l t).1 = oz := by
  unfold readM at h ⊢
  by_cases h1 : doneK (stE l t).1 (stE l t).2.1 ≠ 0
  · rw [if_pos h1]
  · rw [if_neg h1] at h ⊢
    by_cases h2 : rightO (qv (stE l t).2.2 none 0) = true
    · rw [if_pos h2] at h
      exact absurd rfl h
    · rw [if_neg h2]
theorem text10_ok {q : OpT} {w : World} (hq : QOk q) (hd : Rd w q.v q.b) (hs : q.s.size ≤ 400) (hb : q.b.length ≤ 400) (hr : rightO q = true) : Calls Try.prog 10 #[ov q] w fun e w' => ∃ v, e = .returned (.tuple #[v, .int .i64 0]) ∧ Own w.heap.size 5 w' v (textL q) ∧ Below w.heap.size w w' := by
  rcases ((rightO_iff q).1 hr).kind with ⟨k, _⟩ | ⟨k, _⟩ | ⟨k, _⟩ | ⟨k, _⟩
  · exact text10_1 hq hd k hs hb hr
  · exact text10_2 hq hd k hs hb hr
  · exact text10_3 hq hd k hs hb hr
  · exact text10_4 hq hd k hs hb hr
/-- How long what is right is. -/
theorem right_len {q : OpT} (hr : rightO q = true) (hb : q.vn = q.b.length) : q.s.size ≤ 24 ∧ q.b.length ≤ 400 := by
  rcases ((rightO_iff q).1 hr).kind with ⟨k, _, h⟩ | ⟨k, _, h, _⟩ | ⟨k, h, h2⟩ | ⟨k, h, h2⟩
  · have := Placed.of h; exact ⟨(name_size this.2.1).2, by omega⟩
  · have := Placed.of h; exact ⟨(name_size this.2.1).2, by omega⟩
  · have := (Bare.of h).2.2.1; exact ⟨by rw [this]; exact Nat.zero_le 24, by omega⟩
  · have := (Bare.of h).2.2.1; exact ⟨by rw [this]; exact Nat.zero_le 24, by omega⟩
end Go.Proofs.Ytcchokedfbogfaa
