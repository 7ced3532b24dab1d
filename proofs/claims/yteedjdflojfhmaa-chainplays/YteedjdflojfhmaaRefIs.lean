/-
  The reference's 'is': the row of a handle, if it is of a kind.
-/
import Derived.Test.YteedjdflojfhmaaRefO
namespace Go.Proofs.Yteedjdflojfhmaa
set_option linter.unusedVariables false
set_option synthInstance.maxSize 20000
open Classical
open Go.RowKit Go.Maps

def noRow : Value := .agg #[.int .u64 0, .int .i64 0, .slice none 0 0, .slice none 0 0, .int .u64 0, .int .u64 0]
def rowVal : Option RRow → Value
  | some q => .agg #[.int .u64 q.h, .int .i64 (kindOf q.x), q.a, q.b, .int .u64 (nOf q.x), .int .u64 (mOf q.x)]
  | none => noRow
/-- The row of a handle, if it is of kind k. -/
def isOf (R : List RRow) (g k : Int) : Option RRow := match R.find? (fun q => q.h == g) with
  | some q => if kindOf q.x = k then some q else none
  | none => none

theorem idx_find (R : List RRow) (g : Int) : (idx R g = -1 ∧ R.find? (fun q => q.h == g) = none) ∨ ∃ (i : Nat) (q : RRow), R[i]? = some q ∧ q.h = g ∧ idx R g = i ∧ R.find? (fun q => q.h == g) = some q := by
  cases h : R.findIdx? (fun q => q.h == g) with
  | none =>
    refine .inl ⟨by unfold idx; rw [h], ?_⟩
    rw [List.findIdx?_eq_none_iff] at h
    exact List.find?_eq_none.2 fun x hx => by simpa using h x hx
  | some i =>
    have hi : idx R g = i := by unfold idx; rw [h]
    rw [List.findIdx?_eq_some_iff_getElem] at h
    obtain ⟨h1, h2, h3⟩ := h
    refine .inr ⟨i, R[i], List.getElem?_eq_getElem _, by simpa using h2, hi, ?_⟩
    rw [List.find?_eq_some_iff_getElem]
    exact ⟨h2, i, h1, rfl, fun j hj => by simpa using h3 j hj⟩

theorem isOf_some {S : St} {R : List RRow} (hr : S.rows = R.map fun q => (q.h, q.x)) {g k : Int} {q : RRow} (h : isOf R g k = some q) : q ∈ R ∧ q.h = g ∧ kindOf q.x = k ∧ S.at g = some q.x := by
  unfold isOf at h
  rcases idx_find R g with ⟨_, e⟩ | ⟨i, p, h1, h2, _, e⟩
  · rw [e] at h; cases h
  · rw [e] at h
    dsimp only at h
    split at h
    · cases h
      refine ⟨List.mem_of_getElem? h1, h2, by assumption, ?_⟩
      unfold St.at
      rw [hr, List.find?_map]
      show Option.map _ (Option.map _ (R.find? fun q => q.h == g)) = _
      rw [e]; rfl
    · cases h
theorem isOf_none {S : St} {R : List RRow} (hr : S.rows = R.map fun q => (q.h, q.x)) {g k : Int} (h : isOf R g k = none) : ∀ x, S.at g = some x → kindOf x ≠ k := by
  intro x hx hk
  unfold isOf at h
  unfold St.at at hx
  rw [hr, List.find?_map] at hx
  replace hx : Option.map _ (Option.map _ (R.find? fun q => q.h == g)) = some x := hx
  rcases idx_find R g with ⟨_, e⟩ | ⟨i, p, h1, h2, _, e⟩
  · rw [e] at hx; cases hx
  · rw [e] at h hx
    simp at hx
    dsimp only at h
    rw [hx, if_pos hk] at h
    cases h

theorem zero86 (w : World) : (zeroValue 89).run Try.prog w = .ok noRow w := by kernel_rfl

set_option maxHeartbeats 2000000 in
set_option maxRecDepth 20000 in
theorem ris_any (W : WS) (w : World) (r : Nat) (fr : List Nat) (S : St) (R : List RRow) (dv lv : Value) (h : RO W w r fr S R dv lv) (g k : Int) :
    Calls Try.prog 92 #[ptr r, .int .u64 g, .int .i64 k] w fun e w' => e = .returned (.tuple #[rowVal (isOf R g k), .bool (isOf R g k).isSome]) ∧ Below w.heap.size w w' := by
  obtain ⟨w1, hw1⟩ : ∃ w1, w1 = w.alloc (.cells #[.int .u64 0, .int .i64 0, .slice none 0 0, .slice none 0 0, .int .u64 0, .int .u64 0] 89) := ⟨_, rfl⟩
  have hb1 : Below w.heap.size w w1 := by rw [hw1]; exact balloc (Below.refl _ _) _
  have h1 : RO W w1 r fr S R dv lv := h.below hb1
  have H : Hid (RO W w1 r fr S R dv lv) := h1
  have c1 := h1.blk.cell 1 _ rfl
  have hfew := h.few
  obtain ⟨la, lc, rfl, hl1, hl2⟩ := slice_of_own h.own
  clear h h1
  subst hw1
  unfold isOf
  rcases idx_find R g with ⟨e, e2⟩ | ⟨i, q, hq, hg, e, e2⟩
  · rw [e2]
    have HE : Hid (idx R g = -1) := e
    clear e e2
    go_enter Try.func92, Try.ntmps92
    go_wp2_with (go_at_call 59; go_must (refine (rat_any W _ r fr S R dv _ H.out g).mono ?_; rw [HE.out]; rintro e w2 ⟨rfl, rfl⟩))
    refine bodyPost_ret (v := .tuple #[noRow, .bool false]) ?_ rfl ⟨rfl, ?_⟩
    · rw [results_cell_tmp rfl]
      unfold noRow
      go_simp
    · exact hb1
  · rw [e2]
    have HE : Hid (idx R g = i) := e
    obtain ⟨gb, cap, ee, _, _, hc⟩ := H.out.row hq
    have hlt : i < R.length := (List.getElem?_eq_some_iff.1 hq).1
    cases ee
    obtain ⟨va, vb⟩ := H.out.vals q (List.mem_of_getElem? hq)
    obtain ⟨qh, qx, qa, qb⟩ := q
    dsimp only at va vb
    obtain ⟨a1, n1, rfl⟩ := va.1.len
    obtain ⟨a2, n2, rfl⟩ := vb.1.len
    have q0 := hc 0 _ rfl
    have q1 := hc 1 _ rfl
    have q2 := hc 2 _ rfl
    have q3 := hc 3 _ rfl
    have q4 := hc 4 _ rfl
    have q5 := hc 5 _ rfl
    simp only [Nat.add_zero] at q0
    dsimp only at *
    generalize aOf qx = xa at *
    generalize bOf qx = xb at *
    clear hc e e2 va vb hq
    by_cases hk : kindOf qx = k
    · rw [if_pos hk]
      subst hk
      unfold rowVal
      dsimp only
      generalize kindOf qx = kx at *
      generalize nOf qx = nx at *
      generalize mOf qx = mx at *
      go_enter Try.func92, Try.ntmps92
      go_wp2_with (go_at_call 59; go_must (refine (rat_any W _ r fr S R dv _ H.out g).mono ?_; rw [HE.out]; rintro e w2 ⟨rfl, rfl⟩))
      refine bodyPost_ret (v := .tuple #[.agg #[.int .u64 qh, .int .i64 kx, .slice a1 xa.length n1, .slice a2 xb.length n2, .int .u64 nx, .int .u64 mx], .bool true]) ?_ rfl ⟨rfl, ?_⟩
      · rw [results_cell_tmp rfl]
        go_simp
      · exact balloc (Below.refl _ w) _
    · rw [if_neg hk]
      have hk' : (kindOf qx != k) = true := by simpa using hk
      clear hk
      unfold rowVal
      generalize kindOf qx = kx at *
      go_enter Try.func92, Try.ntmps92
      go_wp2_with (go_at_call 59; go_must (refine (rat_any W _ r fr S R dv _ H.out g).mono ?_; rw [HE.out]; rintro e w2 ⟨rfl, rfl⟩))
      refine bodyPost_ret (v := .tuple #[noRow, .bool false]) ?_ rfl ⟨rfl, ?_⟩
      · rw [results_cell_tmp rfl]
        unfold noRow
        go_simp
      · exact hb1
end Go.Proofs.Yteedjdflojfhmaa
