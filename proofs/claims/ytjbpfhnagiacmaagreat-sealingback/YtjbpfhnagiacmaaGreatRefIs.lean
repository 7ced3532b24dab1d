/-
  The reference's oracle in memory: a block of two cells (draws, rows), a row of its own for the rows, six cells each; it stands for the same plain state as the program's.
  The reference's 'is': the row of a handle, if it is of a kind.
-/
import Derived.Test.YtjbpfhnagiacmaaGreatRep
namespace Go.Proofs.YtjbpfhnagiacmaaGreat
section
set_option linter.unusedVariables false
set_option synthInstance.maxSize 20000
open Classical
open Go.RowKit Go.Maps
def kindOf : What → Int
  | Sum.inl (Sum.inl _) => 1
  | Sum.inl (Sum.inr false) => 2
  | Sum.inl (Sum.inr true) => 3
  | Sum.inr (Sum.inl (Sum.inl _)) => 4
  | Sum.inr (Sum.inl (Sum.inr (_, _))) => 5
  | Sum.inr (Sum.inr (Sum.inl (_, _, _))) => 6
  | Sum.inr (Sum.inr (Sum.inr (_, _, _))) => 7
def aOf : What → List Int
  | Sum.inl (Sum.inl b) => b
  | Sum.inr (Sum.inl (Sum.inr (_, b))) => b
  | Sum.inr (Sum.inr (Sum.inl (_, b, _))) => b
  | _ => []
def bOf : What → List Int
  | Sum.inr (Sum.inr (Sum.inl (_, _, p))) => p
  | _ => []
def nOf : What → Int
  | Sum.inr (Sum.inl (Sum.inl s)) => s
  | Sum.inr (Sum.inl (Sum.inr (s, _))) => s
  | Sum.inr (Sum.inr (Sum.inl (k, _, _))) => k
  | Sum.inr (Sum.inr (Sum.inr (_, _, p))) => p
  | _ => 0
def mOf : What → Int
  | Sum.inr (Sum.inr (Sum.inr (_, k, _))) => k
  | _ => 0
structure RRow where
  h : Int
  x : What
  a : Value
  b : Value
def RRow.cells (q : RRow) : List Value := [.int .u64 q.h, .int .i64 (kindOf q.x), q.a, q.b, .int .u64 (nOf q.x), .int .u64 (mOf q.x)]
def flatR (R : List RRow) : List Value := R.flatMap RRow.cells
theorem flatR_at {R : List RRow} {i : Nat} {q : RRow} (h : R[i]? = some q) (j : Nat) (u : Value) (hj : q.cells[j]? = some u) : (flatR R)[i * 6 + j]? = some u := by
  induction R generalizing i with
  | nil => simp at h
  | cons p R ih =>
    have hj6 : j < 6 := (List.getElem?_eq_some_iff.1 hj).1
    unfold flatR
    rw [List.flatMap_cons]
    cases i with
    | zero =>
      simp at h
      subst h
      rw [List.getElem?_append_left (by show _ < 6; omega), Nat.zero_mul, Nat.zero_add]
      exact hj
    | succ i =>
      rw [List.getElem?_append_right (by show 6 ≤ _; omega)]
      have := ih (by simpa using h)
      unfold flatR at this
      rw [show (i + 1) * 6 + j - p.cells.length = i * 6 + j from by show (i + 1) * 6 + j - 6 = _; omega]
      exact this
theorem flatR_append (R : List RRow) (q : RRow) : flatR (R ++ [q]) = flatR R ++ q.cells := by simp [flatR]
structure WS where
  wd : World
  sb : List Nat
def Kp (W : WS) (w : World) (v : Value) (l : List Int) : Prop := Rd w v l ∧ ∀ k, v.ownBlock = some k → k < W.wd.heap.size ∨ k ∈ W.sb
theorem kp_nil (W : WS) (w : World) : Kp W w (.slice none 0 0) [] := ⟨rd_nil w, fun k hk => by cases hk⟩
theorem Kp.turn {W : WS} {w w' : World} {v : Value} {l : List Int} {X : List Nat} (h : Kp W w v l) (ht : Turn X w w') (hn : ∀ k ∈ X, W.wd.heap.size ≤ k ∧ k ∉ W.sb) : Kp W w' v l :=
  ⟨h.1.turn ht (fun k hk e => by
    rcases h.2 k hk with r | r
    · have := (hn k e).1; omega
    · exact (hn k e).2 r), h.2⟩
theorem Kp.below {W : WS} {w w' : World} {v : Value} {l : List Int} (h : Kp W w v l) (hb : Below w.heap.size w w') : Kp W w' v l := ⟨h.1.below hb, h.2⟩
structure RO (W : WS) (w : World) (r : Nat) (fr : List Nat) (S : St) (R : List RRow) (dv lv : Value) : Prop where
  rows : S.rows = R.map fun q => (q.h, q.x)
  blk : Blk w r 57 [dv, lv]
  foot : r ∈ fr
  new : ∀ k ∈ fr, W.wd.heap.size ≤ k
  room : ∀ k ∈ fr, k < w.heap.size
  bel : Below W.wd.heap.size W.wd w
  draws : RdU W.wd dv S.draws
  own : w.ownsRow W.wd.heap.size 112 6 lv R.length (flatR R)
  apart : ∀ k, lv.ownBlock = some k → k ∈ fr ∧ k ≠ r
  vals : ∀ q ∈ R, Kp W w q.a (aOf q.x) ∧ Kp W w q.b (bOf q.x)
  sep : ∀ k ∈ W.sb, k ∉ fr ∧ k < w.heap.size
  good : Good S
  few : R.length ≤ 100000
theorem RO.turn {W : WS} {w w' : World} {r : Nat} {fr X : List Nat} {S : St} {R : List RRow} {dv lv : Value} (h : RO W w r fr S R dv lv) (ht : Turn X w w') (hX : ∀ k ∈ fr, k ∉ X) (hn : ∀ k ∈ X, W.wd.heap.size ≤ k ∧ k ∉ W.sb) : RO W w' r fr S R dv lv := by
  have hb : ∀ k ∈ fr, w'.heap[k]? = w.heap[k]? := fun k hk => ht.block k (h.room k hk) (hX k hk)
  exact ⟨h.rows, h.blk.block (hb r h.foot), h.foot, h.new, fun k hk => Nat.lt_of_lt_of_le (h.room k hk) ht.size, h.bel.trans (ht.below h.bel.size (fun k hk => (hn k hk).1)), h.draws, ownsRow_block h.own (fun k hk => hb k (h.apart k hk).1), h.apart, (fun q hq => ⟨(h.vals q hq).1.turn ht hn, (h.vals q hq).2.turn ht hn⟩), (fun k hk => ⟨(h.sep k hk).1, Nat.lt_of_lt_of_le (h.sep k hk).2 ht.size⟩), h.good, h.few⟩
theorem RO.below {W : WS} {w w' : World} {r : Nat} {fr : List Nat} {S : St} {R : List RRow} {dv lv : Value} (h : RO W w r fr S R dv lv) (hb : Below w.heap.size w w') : RO W w' r fr S R dv lv := h.turn (X := []) (Turn.of_below hb) (fun _ _ h => by cases h) (fun _ h => by cases h)
theorem RO.row {W : WS} {w : World} {r : Nat} {fr : List Nat} {S : St} {R : List RRow} {dv lv : Value} (h : RO W w r fr S R dv lv) {i : Nat} {q : RRow} (hi : R[i]? = some q) :
    ∃ g cap, lv = .slice (some ⟨g, 0, none⟩) R.length cap ∧ R.length ≤ cap ∧ cap ≤ 9223372036854775807 ∧ ∀ j u, q.cells[j]? = some u → w.cell? ⟨g, i * 6 + j, none⟩ = some u := by
  have hlt : i < R.length := (List.getElem?_eq_some_iff.1 hi).1
  have hc := h.own
  rcases h.own with ⟨h1, ⟨_, h2⟩ | ⟨g, cap, cur, rfl, h3, h4, h5, h6, _⟩⟩
  · omega
  · refine ⟨g, cap, rfl, h5, h6, fun j u hj => ?_⟩
    have := hc.cells (g := g) rfl _ _ (flatR_at hi j u hj)
    rwa [Addr.add_lit, Nat.zero_add] at this
def idx (R : List RRow) (g : Int) : Int := match R.findIdx? (fun q => q.h == g) with
  | some i => (i : Int)
  | none => -1
theorem idx_hit {R : List RRow} {g : Int} {i : Nat} {q : RRow} (hi : R[i]? = some q) (hq : q.h = g) (hb : ∀ j p, j < i → R[j]? = some p → p.h ≠ g) : idx R g = i := by
  have : R.findIdx? (fun q => q.h == g) = some i := by
    rw [List.findIdx?_eq_some_iff_getElem]
    obtain ⟨h1, h2⟩ := List.getElem?_eq_some_iff.1 hi
    refine ⟨h1, by rw [h2, hq]; simp, fun j hj => ?_⟩
    have := hb j R[j] hj (List.getElem?_eq_getElem _)
    simpa using this
  unfold idx
  rw [this]
theorem idx_none {R : List RRow} {g : Int} (hb : ∀ j p, j < R.length → R[j]? = some p → p.h ≠ g) : idx R g = -1 := by
  have : R.findIdx? (fun q => q.h == g) = none := by
    rw [List.findIdx?_eq_none_iff]
    intro q hq
    obtain ⟨j, hj, rfl⟩ := List.mem_iff_getElem.1 hq
    have := hb j R[j] hj (List.getElem?_eq_getElem _)
    simpa using this
  unfold idx
  rw [this]
theorem idx_at {S : St} {R : List RRow} (hr : S.rows = R.map fun q => (q.h, q.x)) (g : Int) : (idx R g = -1 ∧ S.at g = none) ∨ ∃ (i : Nat) (q : RRow), R[i]? = some q ∧ q.h = g ∧ idx R g = i ∧ S.at g = some q.x := by
  unfold St.at
  rw [hr, List.find?_map]
  show (idx R g = -1 ∧ Option.map _ (Option.map _ (R.find? fun q => q.h == g)) = none) ∨ _
  cases h : R.findIdx? (fun q => q.h == g) with
  | none =>
    have h2 : R.find? (fun q => q.h == g) = none := by
      rw [List.findIdx?_eq_none_iff] at h
      exact List.find?_eq_none.2 fun x hx => by simpa using h x hx
    exact .inl ⟨by unfold idx; rw [h], by rw [h2]; rfl⟩
  | some i =>
    rw [List.findIdx?_eq_some_iff_getElem] at h
    obtain ⟨h1, h2, h3⟩ := h
    have h4 : R.find? (fun q => q.h == g) = some R[i] := by
      rw [List.find?_eq_some_iff_getElem]
      exact ⟨h2, i, h1, rfl, fun j hj => by simpa using h3 j hj⟩
    refine .inr ⟨i, R[i], List.getElem?_eq_getElem _, by simpa using h2, ?_, by
      show Option.map _ (Option.map _ (R.find? fun q => q.h == g)) = _
      rw [h4]; rfl⟩
    exact idx_hit (List.getElem?_eq_getElem h1) (by simpa using h2) (fun j p hj hp => by
      obtain ⟨hh, rfl⟩ := List.getElem?_eq_some_iff.1 hp
      simpa using h3 j hj)
set_option maxHeartbeats 1000000 in
theorem rat_any (W : WS) (w : World) (r : Nat) (fr : List Nat) (S : St) (R : List RRow) (dv lv : Value) (h : RO W w r fr S R dv lv) (g : Int) :
    Calls Tryz.prog 93 #[ptr r, .int .u64 g] w fun e w' => e = .returned (.int .i64 (idx R g)) ∧ w' = w := by
  have H : Hid (RO W w r fr S R dv lv) := h
  have c1 := h.blk.cell 1 _ rfl
  have hfew := h.few
  obtain ⟨la, lc, rfl, hl1, hl2⟩ := slice_of_own h.own
  clear h
  go_enter Tryz.func93, Tryz.ntmps93
  go_wp2
  go_loopw [5] (fun i wr => ∃ m : Nat, m ≤ R.length ∧ i = .int .i64 m ∧ Hid (∀ j p, j < m → R[j]? = some p → p.h ≠ g) ∧ wr = w) (fun i _ => R.length - (intOf i).toNat)
  case atStart => exact ⟨0, by omega, rfl, (fun j p hj => by omega), rfl⟩
  case round =>
    obtain ⟨m, hm, rfl, hb, rfl⟩ := hrel
    by_cases hlt : m < R.length
    · obtain ⟨q, hq⟩ : ∃ q, R[m]? = some q := ⟨_, List.getElem?_eq_getElem hlt⟩
      obtain ⟨gb, cap, e, _, _, hc⟩ := H.out.row hq
      cases e
      have q0 := hc 0 _ rfl
      simp only [Nat.add_zero] at q0
      clear hc
      have HQ : Hid (R[m]? = some q) := hq
      clear hq
      by_cases hg : q.h = g
      · subst hg
        go_wp2
        go_ret
        refine ⟨?_, rfl⟩
        rw [idx_hit HQ.out rfl hb.out]
        rfl
      · have hg' : (q.h == g) = false := by simpa using hg
        go_wp2
        go_roundw
        case rel => exact ⟨m + 1, by omega, by go_num, (fun j p hj hp => by
          by_cases e : j = m
          · subst e
            rw [HQ.out] at hp
            cases hp
            exact hg
          · exact hb.out j p (by omega) hp), by first | rfl | trivial⟩
        case measure => simp [intOf]; omega
    · have : m = R.length := by omega
      subst this
      have hi : Hid (idx R g = -1) := idx_none hb.out
      go_wp2
      go_ret
      refine ⟨?_, rfl⟩
      rw [hi.out]
      rfl
end
section
set_option linter.unusedVariables false
set_option synthInstance.maxSize 20000
open Classical
open Go.RowKit Go.Maps
def noRow : Value := .agg #[.int .u64 0, .int .i64 0, .slice none 0 0, .slice none 0 0, .int .u64 0, .int .u64 0]
def rowVal : Option RRow → Value
  | some q => .agg #[.int .u64 q.h, .int .i64 (kindOf q.x), q.a, q.b, .int .u64 (nOf q.x), .int .u64 (mOf q.x)]
  | none => noRow
def isOf (R : List RRow) (g k : Int) : Option RRow := match R.find? (fun q => q.h == g) with
  | some q => if kindOf q.x = k then some q else none
  | none => none
theorem idx_find (R : List RRow) (g : Int) : (idx R g = -1 ∧ R.find? (fun q => q.h == g) = none) ∨ ∃ (i : Nat) (q : RRow), R[i]? = some q ∧ q.h = g ∧ idx R g = i ∧ R.find? (fun q => q.h == g) = some q := by
  cases h : R.findIdx? (fun q => q.h == g) with
  | none =>
    refine .inl ⟨by unfold idx; rw [h], ?_⟩
    rw [List.findIdx?_eq_none_iff] at h
    exact List.find?_eq_none.2 fun x hx => by simpa using h x hx
  | some i =>
    have hi : idx R g = i := by unfold idx; rw [h]
    rw [List.findIdx?_eq_some_iff_getElem] at h
    obtain ⟨h1, h2, h3⟩ := h
    refine .inr ⟨i, R[i], List.getElem?_eq_getElem _, by simpa using h2, hi, ?_⟩
    rw [List.find?_eq_some_iff_getElem]
    exact ⟨h2, i, h1, rfl, fun j hj => by simpa using h3 j hj⟩
theorem isOf_some {S : St} {R : List RRow} (hr : S.rows = R.map fun q => (q.h, q.x)) {g k : Int} {q : RRow} (h : isOf R g k = some q) : q ∈ R ∧ q.h = g ∧ kindOf q.x = k ∧ S.at g = some q.x := by
  unfold isOf at h
  rcases idx_find R g with ⟨_, e⟩ | ⟨i, p, h1, h2, _, e⟩
  · rw [e] at h; cases h
  · rw [e] at h
    dsimp only at h
    split at h
    · cases h
      refine ⟨List.mem_of_getElem? h1, h2, by assumption, ?_⟩
      unfold St.at
      rw [hr, List.find?_map]
      show Option.map _ (Option.map _ (R.find? fun q => q.h == g)) = _
      rw [e]; rfl
    · cases h
theorem isOf_none {S : St} {R : List RRow} (hr : S.rows = R.map fun q => (q.h, q.x)) {g k : Int} (h : isOf R g k = none) : ∀ x, S.at g = some x → kindOf x ≠ k := by
  intro x hx hk
  unfold isOf at h
  unfold St.at at hx
  rw [hr, List.find?_map] at hx
  replace hx : Option.map _ (Option.map _ (R.find? fun q => q.h == g)) = some x := hx
  rcases idx_find R g with ⟨_, e⟩ | ⟨i, p, h1, h2, _, e⟩
  · rw [e] at hx; cases hx
  · rw [e] at h hx
    simp at hx
    dsimp only at h
    rw [hx, if_pos hk] at h
    cases h
set_option maxHeartbeats 2000000 in
set_option maxRecDepth 20000 in
theorem ris_any (W : WS) (w : World) (r : Nat) (fr : List Nat) (S : St) (R : List RRow) (dv lv : Value) (h : RO W w r fr S R dv lv) (g k : Int) :
    Calls Tryz.prog 78 #[ptr r, .int .u64 g, .int .i64 k] w fun e w' => e = .returned (.tuple #[rowVal (isOf R g k), .bool (isOf R g k).isSome]) ∧ Below w.heap.size w w' := by
  obtain ⟨w1, hw1⟩ : ∃ w1, w1 = w.alloc (.cells #[.int .u64 0, .int .i64 0, .slice none 0 0, .slice none 0 0, .int .u64 0, .int .u64 0] 112) := ⟨_, rfl⟩
  have hb1 : Below w.heap.size w w1 := by rw [hw1]; exact balloc (Below.refl _ _) _
  have h1 : RO W w1 r fr S R dv lv := h.below hb1
  have H : Hid (RO W w1 r fr S R dv lv) := h1
  have c1 := h1.blk.cell 1 _ rfl
  have hfew := h.few
  obtain ⟨la, lc, rfl, hl1, hl2⟩ := slice_of_own h.own
  clear h h1
  subst hw1
  unfold isOf
  rcases idx_find R g with ⟨e, e2⟩ | ⟨i, q, hq, hg, e, e2⟩
  · rw [e2]
    have HE : Hid (idx R g = -1) := e
    clear e e2
    go_enter Tryz.func78, Tryz.ntmps78
    go_wp2_with (go_at_call 93; go_must (refine (rat_any W _ r fr S R dv _ H.out g).mono ?_; rw [HE.out]; rintro e w2 ⟨rfl, rfl⟩))
    refine bodyPost_ret (v := .tuple #[noRow, .bool false]) ?_ rfl ⟨rfl, ?_⟩
    · rw [results_cell_tmp rfl]
      unfold noRow
      go_simp
    · exact hb1
  · rw [e2]
    have HE : Hid (idx R g = i) := e
    obtain ⟨gb, cap, ee, _, _, hc⟩ := H.out.row hq
    have hlt : i < R.length := (List.getElem?_eq_some_iff.1 hq).1
    cases ee
    obtain ⟨va, vb⟩ := H.out.vals q (List.mem_of_getElem? hq)
    obtain ⟨qh, qx, qa, qb⟩ := q
    dsimp only at va vb
    obtain ⟨a1, n1, rfl⟩ := va.1.len
    obtain ⟨a2, n2, rfl⟩ := vb.1.len
    have q0 := hc 0 _ rfl
    have q1 := hc 1 _ rfl
    have q2 := hc 2 _ rfl
    have q3 := hc 3 _ rfl
    have q4 := hc 4 _ rfl
    have q5 := hc 5 _ rfl
    simp only [Nat.add_zero] at q0
    dsimp only at *
    generalize aOf qx = xa at *
    generalize bOf qx = xb at *
    clear hc e e2 va vb hq
    by_cases hk : kindOf qx = k
    · rw [if_pos hk]
      subst hk
      unfold rowVal
      dsimp only
      generalize kindOf qx = kx at *
      generalize nOf qx = nx at *
      generalize mOf qx = mx at *
      go_enter Tryz.func78, Tryz.ntmps78
      go_wp2_with (go_at_call 93; go_must (refine (rat_any W _ r fr S R dv _ H.out g).mono ?_; rw [HE.out]; rintro e w2 ⟨rfl, rfl⟩))
      refine bodyPost_ret (v := .tuple #[.agg #[.int .u64 qh, .int .i64 kx, .slice a1 xa.length n1, .slice a2 xb.length n2, .int .u64 nx, .int .u64 mx], .bool true]) ?_ rfl ⟨rfl, ?_⟩
      · rw [results_cell_tmp rfl]
        go_simp
      · exact balloc (Below.refl _ w) _
    · rw [if_neg hk]
      have hk' : (kindOf qx != k) = true := by simpa using hk
      clear hk
      unfold rowVal
      generalize kindOf qx = kx at *
      go_enter Tryz.func78, Tryz.ntmps78
      go_wp2_with (go_at_call 93; go_must (refine (rat_any W _ r fr S R dv _ H.out g).mono ?_; rw [HE.out]; rintro e w2 ⟨rfl, rfl⟩))
      refine bodyPost_ret (v := .tuple #[noRow, .bool false]) ?_ rfl ⟨rfl, ?_⟩
      · rw [results_cell_tmp rfl]
        unfold noRow
        go_simp
      · exact hb1
end
end Go.Proofs.YtjbpfhnagiacmaaGreat
