/-
  insertionSort of the library's stable sort, at operations.
  symMerge of the library's stable sort, at operations, where one of both runs has one operation.
  symMerge of the library's stable sort, at operations, where the run behind has one operation.
  symMerge of the library's stable sort, at operations.
  The library's stable sort, at operations: blocks, then merges of blocks.
  A row's one cell; few operations, and none.
  The operations of a list in order, of each time the first.
  Operations that are alike.
-/
import Derived.Test.YthnjbjlhfohpfaaGreatRot
import Derived.Test.YthnjbjlhfohpfaaGreatLsG
namespace Go.Proofs.YthnjbjlhfohpfaaGreat
section
set_option linter.unusedVariables false
set_option linter.unusedSimpArgs false
set_option synthInstance.maxSize 20000
set_option maxHeartbeats 2000000
set_option maxRecDepth 20000
open Go.RowKit Go.Maps

/-- Of a list that is put in order: what is in order (z), then what stands as it came. -/
structure InsS (x z y : List OpT) : Prop where
  srt : SrtO z
  keep : Keep x (z ++ y)
  len : z.length + y.length = x.length
/-- One of them on its way down: e stands behind z1, ahead of z2, which it is ahead of. -/
structure DownS (x z1 : List OpT) (e : OpT) (z2 y : List OpT) : Prop where
  srt : SrtO (z1 ++ z2)
  less : ∀ q ∈ z2, LtO e q
  keep : Keep x (z1 ++ e :: z2 ++ y)
  len : z1.length + 1 + z2.length + y.length = x.length
theorem DownS.start {x z y : List OpT} {e : OpT} (h : InsS x z (e :: y)) : DownS x z e [] y := by
  refine ⟨by simpa using h.srt, (fun q hq => by cases hq), ?_, ?_⟩
  · have := h.keep
    simpa using this
  · have := h.len
    simp at this ⊢
    omega
theorem DownS.less' {x z1 z2 y : List OpT} {e d : OpT} (h : DownS x (z1 ++ [d]) e z2 y) (hl : LtO e d) : DownS x z1 e (d :: z2) y := by
  refine ⟨by simpa using h.srt, fun q hq => ?_, ?_, ?_⟩
  · rcases List.mem_cons.1 hq with rfl | hq
    · exact hl
    · exact h.less q hq
  · refine h.keep.trans ?_
    have t : Keep ([d] ++ [e]) ([e] ++ [d]) := Keep.turn (fun a ha b hb => by
      simp at ha hb
      subst ha hb
      exact fun k => lt_ne hl k.symm)
    have := ((Keep.refl z1).append t).append (Keep.refl (z2 ++ y))
    simpa using this
  · have := h.len
    simp at this ⊢
    omega
theorem DownS.stop {x z1 z2 y : List OpT} {e : OpT} (h : DownS x z1 e z2 y) (hs : ∀ q ∈ z1, LeO q e) : InsS x (z1 ++ e :: z2) y := by
  obtain ⟨a1, a2, a3⟩ := srt_append.1 h.srt
  refine ⟨srt_append.2 ⟨a1, List.pairwise_cons.2 ⟨fun q hq => lt_le (h.less q hq), a2⟩, fun p hp q hq => ?_⟩, h.keep, ?_⟩
  · rcases List.mem_cons.1 hq with rfl | hq
    · exact hs p hp
    · exact a3 p hp q hq
  · have := h.len
    simp at this ⊢
    omega
theorem DownS.top {x z1 z2 y : List OpT} {e d : OpT} (h : DownS x (z1 ++ [d]) e z2 y) (hl : ¬ LtO e d) : ∀ q ∈ z1 ++ [d], LeO q e := fun q hq => by
  have a1 := (srt_append.1 h.srt).1
  rcases List.mem_append.1 hq with hq | hq
  · have := (srt_append.1 a1).2.2 q hq d (by simp)
    exact le_trans' this hl
  · simp at hq
    subst hq
    exact hl
end

section
set_option linter.unusedVariables false
set_option linter.unusedSimpArgs false
set_option synthInstance.maxSize 20000
set_option maxHeartbeats 2000000
set_option maxRecDepth 20000
open Go.RowKit Go.Maps

/-- What a merge of x and y comes to. -/
structure MrgS (x y z : List OpT) : Prop where
  srt : SrtO z
  keep : Keep (x ++ y) z
  len : z.length = x.length + y.length
/-- d on its way behind those that it is not ahead of. -/
theorem mrg_left {d : OpT} {ya yb : List OpT} (hy : SrtO (ya ++ yb)) (h1 : ∀ q ∈ ya, LtO q d) (h2 : ∀ q ∈ yb, LeO d q) : MrgS [d] (ya ++ yb) (ya ++ d :: yb) := by
  obtain ⟨a1, a2, a3⟩ := srt_append.1 hy
  refine ⟨srt_append.2 ⟨a1, List.pairwise_cons.2 ⟨h2, a2⟩, fun p hp q hq => ?_⟩, ?_, by simp; omega⟩
  · rcases List.mem_cons.1 hq with rfl | hq
    · exact lt_le (h1 p hp)
    · exact a3 p hp q hq
  · have t : Keep ([d] ++ ya) (ya ++ [d]) := Keep.turn fun a ha b hb k => by
      simp at ha
      subst ha
      exact lt_ne (h1 b hb) k.symm
    have := t.append (Keep.refl yb)
    simpa using this
theorem mrg_right {d : OpT} {xa xb : List OpT} (hx : SrtO (xa ++ xb)) (h1 : ∀ q ∈ xa, LeO q d) (h2 : ∀ q ∈ xb, LtO d q) : MrgS (xa ++ xb) [d] (xa ++ d :: xb) := by
  obtain ⟨a1, a2, a3⟩ := srt_append.1 hx
  refine ⟨srt_append.2 ⟨a1, List.pairwise_cons.2 ⟨fun q hq => lt_le (h2 q hq), a2⟩, fun p hp q hq => ?_⟩, ?_, by simp; omega⟩
  · rcases List.mem_cons.1 hq with rfl | hq
    · exact h1 p hp
    · exact a3 p hp q hq
  · have t : Keep (xb ++ [d]) ([d] ++ xb) := Keep.turn fun a ha b hb k => by
      simp at hb
      subst hb
      exact lt_ne (h2 a ha) k.symm
    have := (Keep.refl xa).append t
    simpa using this
/-- The search in y: all ahead of i are ahead of d, none from j on. -/
structure Seek1 (d : OpT) (y : List OpT) (m i j : Nat) : Prop where
  lo : ∀ t q, y[t]? = some q → m + t < i → LtO q d
  hi : ∀ t q, y[t]? = some q → j ≤ m + t → LeO d q
structure Seek2 (d : OpT) (x : List OpT) (a i j : Nat) : Prop where
  lo : ∀ t q, x[t]? = some q → a + t < i → LeO q d
  hi : ∀ t q, x[t]? = some q → j ≤ a + t → LtO d q
end

section
set_option linter.unusedVariables false
set_option linter.unusedSimpArgs false
set_option synthInstance.maxSize 20000
set_option maxHeartbeats 2000000
set_option maxRecDepth 20000
open Go.RowKit Go.Maps
end

section
set_option linter.unusedVariables false
set_option linter.unusedSimpArgs false
set_option synthInstance.maxSize 20000
set_option maxHeartbeats 2000000
set_option maxRecDepth 20000
open Go.RowKit Go.Maps

/-- The search of a merge: st not behind the cut, r not ahead of it; L: the row, n: what two places that are held against each other sum up to, less one. -/
structure Seek3 (L : List OpT) (n lo hi st r : Nat) : Prop where
  lo : st = lo ∨ ∃ e f, L[st - 1]? = some e ∧ L[n - st]? = some f ∧ LeO e f
  hi : r = hi ∨ ∃ e f, L[r]? = some e ∧ L[n - 1 - r]? = some f ∧ LtO f e
theorem mid_left {p x y s : List OpT} {t : Nat} (h1 : p.length ≤ t) (h2 : t < p.length + x.length) : (p ++ (x ++ (y ++ s)))[t]? = x[t - p.length]? := by
  rw [List.getElem?_append_right h1, List.getElem?_append_left (by omega)]
theorem mid_right {p x y s : List OpT} {t : Nat} (h1 : p.length + x.length ≤ t) (h2 : t < p.length + x.length + y.length) : (p ++ (x ++ (y ++ s)))[t]? = y[t - (p.length + x.length)]? := by
  rw [List.getElem?_append_right (by omega), List.getElem?_append_right (by omega), List.getElem?_append_left (by omega)]
  congr 1
  omega
theorem mem_take {x : List OpT} {k : Nat} {q : OpT} (h : q ∈ x.take k) : ∃ t, t < k ∧ x[t]? = some q := by
  obtain ⟨t, ht⟩ := List.mem_iff_getElem?.1 h
  rw [List.getElem?_take] at ht
  split at ht
  · exact ⟨t, by assumption, ht⟩
  · cases ht
theorem mem_drop {x : List OpT} {k : Nat} {q : OpT} (h : q ∈ x.drop k) : ∃ t, k ≤ t ∧ x[t]? = some q := by
  obtain ⟨t, ht⟩ := List.mem_iff_getElem?.1 h
  rw [List.getElem?_drop] at ht
  exact ⟨k + t, by omega, ht⟩
theorem seek3_parts {p x y s : List OpT} {a m b n lo hi st : Nat} (ha : a = p.length) (hm : m = a + x.length) (hb : b = m + y.length) (hx : SrtO x) (hy : SrtO y)
    (h : Seek3 (p ++ (x ++ (y ++ s))) n lo hi st st) (hlo : a ≤ lo) (hls : lo ≤ st) (hsh : st ≤ hi) (him : hi ≤ m) (hn : m + st ≤ n ∧ n ≤ b + st) (h1 : lo = a ∨ n = b + lo) (h2 : hi = m ∨ n = m + hi) :
    (∀ q ∈ x.take (st - a), ∀ t ∈ y.drop (n - st - m), LeO q t) ∧ (∀ q ∈ y.take (n - st - m), ∀ t ∈ x.drop (st - a), LtO q t) := by
  refine ⟨fun q hq t ht => ?_, fun q hq t ht => ?_⟩
  · obtain ⟨i, hi1, hi2⟩ := mem_take hq
    obtain ⟨j, hj1, hj2⟩ := mem_drop ht
    have hjl := (List.getElem?_eq_some_iff.1 hj2).1
    rcases h.lo with e | ⟨e, f, he, hf, hl⟩
    · rcases h1 with h1 | h1 <;> omega
    · rw [mid_left (by omega) (by omega)] at he
      rw [mid_right (by omega) (by omega)] at hf
      exact le_trans' (srt_last hx hi2 he (by omega)) (le_trans' hl (srt_last hy hf hj2 (by omega)))
  · obtain ⟨i, hi1, hi2⟩ := mem_take hq
    obtain ⟨j, hj1, hj2⟩ := mem_drop ht
    have hjl := (List.getElem?_eq_some_iff.1 hj2).1
    rcases h.hi with e | ⟨e, f, he, hf, hl⟩
    · rcases h2 with h2 | h2 <;> omega
    · rw [mid_left (by omega) (by omega)] at he
      rw [mid_right (by omega) (by omega)] at hf
      exact le_lt_trans (srt_last hy hi2 hf (by omega)) (lt_le_trans hl (srt_last hx he hj2 (by omega)))
theorem mrg_nilL {y : List OpT} (h : SrtO y) : MrgS [] y ([] ++ y) := ⟨h, Keep.refl _, by simp⟩
theorem mrg_nilR {x : List OpT} (h : SrtO x) : MrgS x [] (x ++ []) := ⟨by simpa using h, Keep.refl _, by simp⟩
end

section
set_option linter.unusedVariables false
set_option linter.unusedSimpArgs false
set_option synthInstance.maxSize 20000
set_option maxHeartbeats 2000000
set_option maxRecDepth 20000
open Go.RowKit Go.Maps

/-- Blocks of k, each in order. -/
structure BlkL (k : Nat) (cs : List (List OpT)) : Prop where
  each : ∀ c ∈ cs, c.length = k ∧ SrtO c
theorem BlkL.len {k : Nat} : ∀ {cs : List (List OpT)}, BlkL k cs → cs.flatten.length = cs.length * k
  | [], _ => by simp
  | c :: cs, h => by
    have h1 := (h.each c (by simp)).1
    have h2 := BlkL.len (k := k) (cs := cs) ⟨fun d hd => h.each d (by simp [hd])⟩
    rw [List.flatten_cons, List.length_append, h1, h2, List.length_cons, Nat.add_mul]
    omega
theorem BlkL.snoc {k : Nat} {cs : List (List OpT)} (h : BlkL k cs) {c : List OpT} (h1 : c.length = k) (h2 : SrtO c) : BlkL k (cs ++ [c]) := ⟨fun d hd => by
  rcases List.mem_append.1 hd with hd | hd
  · exact h.each d hd
  · simp at hd; subst hd; exact ⟨h1, h2⟩⟩
/-- Blocks of k in order, and one that is shorter behind them. -/
structure Blocks (k : Nat) (l : List OpT) (cs : List (List OpT)) (r : List OpT) : Prop where
  eq : l = cs.flatten ++ r
  blk : BlkL k cs
  srt : SrtO r
  short : r.length < k
theorem Blocks.done {k : Nat} {l r : List OpT} {cs : List (List OpT)} (h : Blocks k l cs r) (hl : l.length ≤ k) (hk : 0 < k) : SrtO l := by
  have h1 := h.eq
  have h2 := h.blk.len
  have h3 := congrArg List.length h1
  rw [List.length_append, h2] at h3
  cases cs with
  | nil =>
    simp at h1
    rw [h1]
    exact h.srt
  | cons c cs =>
    rw [List.length_cons, Nat.add_mul] at h3
    have hc : cs = [] := by
      cases cs with
      | nil => rfl
      | cons d cs =>
        rw [List.length_cons, Nat.add_mul] at h3
        omega
    subst hc
    have hr : r = [] := List.eq_nil_of_length_eq_zero (by simp at h3; omega)
    subst hr
    simp at h1
    rw [h1]
    exact (h.blk.each c (by simp)).2
/-- What a merge of blocks has come to: blocks of 2 k (ds), blocks of k (cs), one that is shorter. -/
structure Mid (k : Nat) (l0 l : List OpT) (ds cs : List (List OpT)) (r : List OpT) : Prop where
  eq : l = ds.flatten ++ (cs.flatten ++ r)
  two : BlkL (2 * k) ds
  one : BlkL k cs
  srt : SrtO r
  short : r.length < k
  keep : Keep l0 l
theorem Mid.len {k : Nat} {l0 l r : List OpT} {ds cs : List (List OpT)} (h : Mid k l0 l ds cs r) : l.length = ds.length * (2 * k) + cs.length * k + r.length := by
  rw [h.eq, List.length_append, List.length_append, h.two.len, h.one.len]
  omega
theorem Mid.pair {k : Nat} {l0 l r : List OpT} {ds cs : List (List OpT)} (h : Mid k l0 l ds cs r) (hl : ds.length * (2 * k) + 2 * k ≤ l.length) : ∃ c1 c2 cs', cs = c1 :: c2 :: cs' := by
  have h1 := h.len
  have h2 := h.short
  cases cs with
  | nil => simp at h1; omega
  | cons c1 cs =>
    cases cs with
    | nil => simp at h1; omega
    | cons c2 cs => exact ⟨c1, c2, cs, rfl⟩
theorem Mid.merge {k : Nat} {l0 l r : List OpT} {ds : List (List OpT)} {c1 c2 : List OpT} {cs : List (List OpT)} (h : Mid k l0 l ds (c1 :: c2 :: cs) r) {z : List OpT} (hz : MrgS c1 c2 z) :
    Mid k l0 (ds.flatten ++ (z ++ (cs.flatten ++ r))) (ds ++ [z]) cs r := by
  have a1 := h.one.each c1 (by simp)
  have a2 := h.one.each c2 (by simp)
  refine ⟨by simp, h.two.snoc (by rw [hz.len, a1.1, a2.1]; omega) hz.srt, ⟨fun d hd => h.one.each d (by simp [hd])⟩, h.srt, h.short, h.keep.trans ?_⟩
  have e := h.eq
  rw [e]
  have := (Keep.refl ds.flatten).append (hz.keep.append (Keep.refl (cs.flatten ++ r)))
  simpa using this
/-- The end of a round of merges: what is left is one block, or none, and one that is shorter. -/
theorem Mid.left {k : Nat} {l0 l r : List OpT} {ds cs : List (List OpT)} (h : Mid k l0 l ds cs r) (hl : l.length < ds.length * (2 * k) + 2 * k) : cs = [] ∨ ∃ c, cs = [c] := by
  have h1 := h.len
  cases cs with
  | nil => exact .inl rfl
  | cons c1 cs =>
    cases cs with
    | nil => exact .inr ⟨c1, rfl⟩
    | cons c2 cs =>
      rw [List.length_cons, List.length_cons, Nat.add_mul, Nat.add_mul] at h1
      omega
end

section
set_option linter.unusedVariables false
set_option linter.unusedSimpArgs false
set_option synthInstance.maxSize 20000
set_option maxHeartbeats 2000000
set_option maxRecDepth 20000
open Go.RowKit Go.Maps

theorem oc_set9 (x : OpT) (a : Option Addr) (n c : Nat) (b : List Int) : (oc x).set 9 (.slice a n c) = oc ⟨x.k, x.a, x.n, x.p, x.d, x.s, a, n, c, b⟩ := rfl
theorem flat_set9 (p s : List OpT) (x y : OpT) (v : Value) (h : (oc x).set 9 v = oc y) : (flat oc (p ++ x :: s)).set (p.length * 10 + 9) v = flat oc (p ++ y :: s) := by
  have h1 : (flat oc p).length = p.length * 10 := flat_length oc_len _
  have e : ∀ z, flat oc (p ++ z :: s) = flat oc p ++ (oc z ++ flat oc s) := fun z => by rw [flat_append]; rfl
  rw [e, e, List.set_append_right _ _ (by omega), h1, Nat.add_sub_cancel_left, List.set_append_left _ _ (by rw [oc_len]; omega), h]
/-- The content of one operation of a row is stored. -/
theorem Row.put9 {w : World} {g N cap : Nat} {p s : List OpT} {x y : OpT} {v : Value} (h : Row w g N cap (p ++ x :: s)) (hv : (oc x).set 9 v = oc y) : Row (w.setCell ⟨g, p.length * 10 + 9, none⟩ v) g N cap (p ++ y :: s) := by
  obtain ⟨hl, hx, hh⟩ := h
  rcases hh with ⟨e, _⟩ | ⟨g', cap', cur, e, h3, h4, h5, h6, h7, h8⟩
  · cases e
  · cases e
    have hb : Blk w g 38 cur.toList := by unfold Blk; simpa using h4
    have q1 := hb.set (p.length * 10 + 9) v
    have hlp : p.length + 1 + s.length = N := by simp at hl; omega
    refine ⟨by simpa using hl, ?_, .inr ⟨g, cap, _, rfl, Nat.zero_le _, q1, h5, h6, by simpa using h7, ?_⟩⟩
    · rw [flat_length oc_len]; simp at hl ⊢; omega
    · rw [List.toList_toArray, List.take_set, h8, flat_set9 p s x y v hv]
theorem firstsO_few {l : List OpT} (h : l.length < 2) : firstsO l = l := by
  match l, h with
  | [], _ => rfl
  | [x], _ => rfl
  | x :: y :: r, h => simp at h; omega
end

section
set_option linter.unusedVariables false
set_option linter.unusedSimpArgs false
set_option synthInstance.maxSize 20000
set_option maxHeartbeats 2000000
set_option maxRecDepth 20000
open Go.RowKit Go.Maps

/-- An operation but for where its content lies. -/
def bare (q : OpT) : OpT := ⟨q.k, q.a, q.n, q.p, q.d, q.s, none, 0, 0, q.b⟩
theorem own_ne {B e g : Nat} {w : World} {v : Value} {l : List Int} (h : Own B e w v l) (hg : g < B) : v.ownBlock ≠ some g := fun hk => by
  obtain ⟨_, _, hh⟩ := h
  rcases hh with ⟨e, _⟩ | ⟨g', cap', cur, e, h3, _⟩
  · rw [e] at hk; cases hk
  · rw [e] at hk
    have e2 : g' = g := by simpa [Value.ownBlock] using hk
    omega
theorem keep_mem {l z : List OpT} {q : OpT} (h : Keep l z) (hq : q ∈ z) : q ∈ l := by
  have h1 : q ∈ z.filter (atK q.a) := List.mem_filter.2 ⟨hq, by simp [atK]⟩
  rw [h q.a] at h1
  exact (List.mem_filter.1 h1).1
/-- What Sort answers. -/
structure Srtd (l : List OpT) (w' : World) (v' : Value) (l' z : List OpT) : Prop where
  srt : SrtO z
  keep : Keep l z
  len : z.length = l.length
  alike : l'.map bare = (firstsO z).map bare
  row : RowF oc w' v' l'
  rd : ∀ q ∈ l', Rd w' q.v q.b
end

section
set_option linter.unusedVariables false
set_option linter.unusedSimpArgs false
set_option synthInstance.maxSize 20000
set_option maxHeartbeats 2000000
set_option maxRecDepth 20000
open Go.RowKit Go.Maps

def sameO (q r : OpT) : Bool := decide (q.k = r.k ∧ q.a = r.a ∧ q.n = r.n ∧ q.p = r.p ∧ q.d = r.d ∧ q.s.toList = r.s.toList ∧ q.b = r.b)
theorem rsame19 {q r : OpT} {w : World} (hq : Rd w q.v q.b) (hr : Rd w r.v r.b) : Calls Tryz.prog 27 #[ov q, ov r] w fun e w' => e = .returned (.bool (sameO q r)) ∧ Below w.heap.size w w' := by
  have HE : Hid (∀ w', Below w.heap.size w w' → Calls Tryz.prog 48 #[q.v, r.v] w' fun e w'' => e = .returned (.bool (decide (q.b = r.b))) ∧ Below w'.heap.size w' w'') := fun w' h => same_any q.v r.v q.b r.b w' (hq.below h) (hr.below h)
  have HQ : Hid (sameO q r = decide (q.k = r.k ∧ q.a = r.a ∧ q.n = r.n ∧ q.p = r.p ∧ q.d = r.d ∧ q.s.toList = r.s.toList ∧ q.b = r.b)) := (rfl : sameO q r = _)
  generalize sameO q r = SO at HQ ⊢
  clear hq hr
  obtain ⟨k, ⟨a1, a2⟩, ⟨n1, n2⟩, ⟨p1, p2⟩, d, s, va, vn, vc, b⟩ := q
  obtain ⟨k', ⟨a1', a2'⟩, ⟨n1', n2'⟩, ⟨p1', p2'⟩, d', s', va', vn', vc', b'⟩ := r
  unfold OpT.v at HE
  unfold ov oc
  dsimp only at HE HQ ⊢
  have HB0 : Hid (Below w.heap.size w ((w.alloc (.cells #[.int .i64 k, .int .i64 a1, .int .i64 a2, .int .i64 n1, .int .i64 n2, .int .i64 p1, .int .i64 p2, .bool d, .string s, .slice va vn vc] 38)).alloc (.cells #[.int .i64 k', .int .i64 a1', .int .i64 a2', .int .i64 n1', .int .i64 n2', .int .i64 p1', .int .i64 p2', .bool d', .string s', .slice va' vn' vc'] 38))) := (show Below _ _ _ from balloc (balloc (Below.refl _ _) _) _)
  by_cases h_k : k = k'
  rotate_left
  · have e_k : (k == k') = false := by simp [h_k]
    have HF : Hid (SO = false) := by show _ = _; rw [HQ.out]; simp [h_k]
    clear HE HQ
    go_enter Tryz.func27, Tryz.ntmps27
    go_wp2
    go_ret
    exact ⟨by rw [HF.out]; rfl, HB0.out⟩
  subst h_k
  by_cases h_a1 : a1 = a1'
  rotate_left
  · have e_a1 : (a1 == a1') = false := by simp [h_a1]
    have HF : Hid (SO = false) := by show _ = _; rw [HQ.out]; simp [h_a1]
    clear HE HQ
    go_enter Tryz.func27, Tryz.ntmps27
    go_wp2
    go_ret
    exact ⟨by rw [HF.out]; rfl, HB0.out⟩
  subst h_a1
  by_cases h_a2 : a2 = a2'
  rotate_left
  · have e_a2 : (a2 == a2') = false := by simp [h_a2]
    have HF : Hid (SO = false) := by show _ = _; rw [HQ.out]; simp [h_a2]
    clear HE HQ
    go_enter Tryz.func27, Tryz.ntmps27
    go_wp2
    go_ret
    exact ⟨by rw [HF.out]; rfl, HB0.out⟩
  subst h_a2
  by_cases h_n1 : n1 = n1'
  rotate_left
  · have e_n1 : (n1 == n1') = false := by simp [h_n1]
    have HF : Hid (SO = false) := by show _ = _; rw [HQ.out]; simp [h_n1]
    clear HE HQ
    go_enter Tryz.func27, Tryz.ntmps27
    go_wp2
    go_ret
    exact ⟨by rw [HF.out]; rfl, HB0.out⟩
  subst h_n1
  by_cases h_n2 : n2 = n2'
  rotate_left
  · have e_n2 : (n2 == n2') = false := by simp [h_n2]
    have HF : Hid (SO = false) := by show _ = _; rw [HQ.out]; simp [h_n2]
    clear HE HQ
    go_enter Tryz.func27, Tryz.ntmps27
    go_wp2
    go_ret
    exact ⟨by rw [HF.out]; rfl, HB0.out⟩
  subst h_n2
  by_cases h_p1 : p1 = p1'
  rotate_left
  · have e_p1 : (p1 == p1') = false := by simp [h_p1]
    have HF : Hid (SO = false) := by show _ = _; rw [HQ.out]; simp [h_p1]
    clear HE HQ
    go_enter Tryz.func27, Tryz.ntmps27
    go_wp2
    go_ret
    exact ⟨by rw [HF.out]; rfl, HB0.out⟩
  subst h_p1
  by_cases h_p2 : p2 = p2'
  rotate_left
  · have e_p2 : (p2 == p2') = false := by simp [h_p2]
    have HF : Hid (SO = false) := by show _ = _; rw [HQ.out]; simp [h_p2]
    clear HE HQ
    go_enter Tryz.func27, Tryz.ntmps27
    go_wp2
    go_ret
    exact ⟨by rw [HF.out]; rfl, HB0.out⟩
  subst h_p2
  by_cases h_d : d = d'
  rotate_left
  · have HF : Hid (SO = false) := by show _ = _; rw [HQ.out]; simp [h_d]
    have e_d : (d == d') = false := by simp [h_d]
    clear HE HQ
    go_enter Tryz.func27, Tryz.ntmps27
    go_wp2
    go_ret
    exact ⟨by rw [HF.out]; rfl, HB0.out⟩
  subst h_d
  by_cases h_s : s.toList = s'.toList
  rotate_left
  · have HF : Hid (SO = false) := by show _ = _; rw [HQ.out]; simp [h_s]
    have e_s : (s.toList == s'.toList) = false := by simp [h_s]
    clear HE HQ
    go_enter Tryz.func27, Tryz.ntmps27
    go_wp2
    go_ret
    exact ⟨by rw [HF.out]; rfl, HB0.out⟩
  have e_s : (s.toList == s'.toList) = true := by simp [h_s]
  have HF : Hid (SO = decide (b = b')) := by show _ = _; rw [HQ.out]; simp [h_s]
  generalize decide (b = b') = bb at HE HF
  clear HQ
  go_enter Tryz.func27, Tryz.ntmps27
  go_wp2_with (go_at_call 48; go_must (refine (HE.out _ HB0.out).mono ?_; rintro e w2 ⟨rfl, hb2⟩; have HB2 : Hid (Below w.heap.size w w2) := bnext HB0.out hb2; clear hb2))
  go_ret
  exact ⟨by rw [HF.out]; rfl, HB2.out⟩
end
end Go.Proofs.YthnjbjlhfohpfaaGreat
