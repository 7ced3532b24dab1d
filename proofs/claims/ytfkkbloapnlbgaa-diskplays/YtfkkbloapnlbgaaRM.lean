/-
  The document's disk as lists: all writes, in order. No memory is named here.
-/
import Derived.Test.YtfkkbloapnlbgaaDskM
namespace Go.Proofs.Ytfkkbloapnlbgaa
set_option linter.unusedVariables false
set_option linter.unusedSimpArgs false

structure RW where
  i : Nat
  b : List Int
  t : Bool
structure Rk where
  n : Int
  good : List RW
  pend : List RW
  armed : Int
  down : Bool
  midst : Bool
  count : Int
def newR (n : Int) : Rk := ⟨n, [], [], -1, false, false, 0⟩
def zeroR : Rk := ⟨0, [], [], 0, false, false, 0⟩
def Rk.reach (R : Rk) (i : Int) : Int := if R.down then 19 else if i < 0 ∨ R.n ≤ i then 2 else 0
def lastAt (l : List RW) (i : Nat) : Option RW := l.foldl (fun acc q => if q.i = i then some q else acc) none
theorem lastAt_snoc (l : List RW) (q : RW) (i : Nat) : lastAt (l ++ [q]) i = if q.i = i then some q else lastAt l i := by
  unfold lastAt
  rw [List.foldl_append]
  rfl
theorem lastAt_take {l : List RW} {k : Nat} {q : RW} (h : l[k]? = some q) (i : Nat) : lastAt (l.take (k + 1)) i = if q.i = i then some q else lastAt (l.take k) i := by
  rw [List.take_add_one, h]
  exact lastAt_snoc _ _ _
def zerosL : List Int := List.replicate 64 0
def foundK : Option RW → Int
  | none => 0
  | some q => if q.t then 5 else 0
def foundB : Option RW → List Int
  | none => zerosL
  | some q => if q.t then [] else q.b
def Rk.found (R : Rk) (i : Int) : Option RW := lastAt (R.good ++ R.pend) i.toNat
def Rk.readK (R : Rk) (i : Int) : Int := if R.reach i ≠ 0 then R.reach i else foundK (R.found i)
def Rk.readB (R : Rk) (i : Int) : List Int := if R.reach i ≠ 0 then [] else foundB (R.found i)
def Rk.fall (R : Rk) (i : Nat) (l : List Int) : Rk := { R with pend := R.pend ++ [⟨i, l, false⟩], down := true, midst := true }
def Rk.put (R : Rk) (i : Nat) (l : List Int) : Rk := { R with pend := R.pend ++ [⟨i, l, false⟩], armed := if 0 < R.armed then R.armed - 1 else R.armed, count := R.count + 1 }
def Rk.write (R : Rk) (i : Int) (l : List Int) : Int × Rk :=
  if R.reach i ≠ 0 then (R.reach i, R) else if l.length ≠ 64 then (1, R) else if R.armed = 0 then (19, R.fall i.toNat l) else (0, R.put i.toNat l)
def Rk.sync (R : Rk) : Int × Rk := if R.down then (19, R) else (0, { R with good := R.good ++ R.pend, pend := [] })
def Rk.arm (R : Rk) (n : Int) : Int × Rk := if R.down then (19, R) else if n < 0 then (1, R) else (0, { R with armed := n })
def tornAt (mid : Bool) (n k : Nat) : Bool := mid && decide (k + 1 = n)
def kept (keep : Nat → Bool) (mid : Bool) (n : Nat) : Nat → List RW → List RW
  | _, [] => []
  | k, q :: r => (if keep k then [⟨q.i, q.b, tornAt mid n k⟩] else []) ++ kept keep mid n (k + 1) r
theorem kept_append (keep : Nat → Bool) (mid : Bool) (n : Nat) : ∀ (l m : List RW) (k : Nat), kept keep mid n k (l ++ m) = kept keep mid n k l ++ kept keep mid n (k + l.length) m
  | [], m, k => rfl
  | q :: r, m, k => by
    show (if keep k then [_] else []) ++ kept keep mid n (k + 1) (r ++ m) = _
    rw [kept_append keep mid n r m (k + 1), ← List.append_assoc, List.length_cons, show k + 1 + r.length = k + (r.length + 1) by omega]
    rfl
theorem kept_step {keep : Nat → Bool} {mid : Bool} {n k : Nat} {l : List RW} {q : RW} (h : l[k]? = some q) : kept keep mid n 0 (l.take (k + 1)) = kept keep mid n 0 (l.take k) ++ (if keep k then [⟨q.i, q.b, tornAt mid n k⟩] else []) := by
  have hk : k < l.length := (List.getElem?_eq_some_iff.1 h).1
  have e : l.take (k + 1) = l.take k ++ [q] := by
    rw [List.take_add_one, h]
    rfl
  have e2 : (l.take k).length = k := by rw [List.length_take]; omega
  rw [e, kept_append, e2, Nat.zero_add]
  show _ ++ ((if keep k then [_] else []) ++ []) = _
  rw [List.append_nil]
theorem kept_len (keep : Nat → Bool) (mid : Bool) (n : Nat) : ∀ (l : List RW) (k : Nat), (kept keep mid n k l).length ≤ l.length
  | [], k => Nat.le_refl _
  | q :: r, k => by
    show ((if keep k then [_] else []) ++ kept keep mid n (k + 1) r).length ≤ _
    rw [List.length_append, List.length_cons]
    have := kept_len keep mid n r (k + 1)
    split
    · simp only [List.length_singleton]; omega
    · simp only [List.length_nil]; omega
def Rk.restart (R : Rk) (ks : List Bool) : Rk := { R with good := R.good ++ kept (keeps ks) R.midst R.pend.length 0 R.pend, pend := [], armed := -1, down := false, midst := false }

/-- How great a disk's numbers are. -/
structure ROk (R : Rk) (N : Nat) : Prop where
  gl : R.good.length + R.pend.length ≤ N
  c0 : 0 ≤ R.count
  cN : R.count ≤ N
  a0 : -1 ≤ R.armed
  am : R.armed ≤ 9223372036854775807
theorem ROk.mono {R : Rk} {N M : Nat} (h : ROk R N) (hN : N ≤ M) : ROk R M := ⟨Nat.le_trans h.gl hN, h.c0, by have := h.cN; omega, h.a0, h.am⟩
theorem newR_ok (n : Int) : ROk (newR n) 0 := ⟨Nat.le_refl _, Int.le_refl _, Int.le_refl _, Int.le_refl _, by simp [newR]⟩
theorem zeroR_ok : ROk zeroR 0 := ⟨Nat.le_refl _, Int.le_refl _, Int.le_refl _, by simp [zeroR], by simp [zeroR]⟩
theorem ROk.write {R : Rk} {N : Nat} (h : ROk R N) (i : Int) (l : List Int) : ROk (R.write i l).2 (N + 1) := by
  have h1 := h.gl
  have h2 := h.cN
  have h3 := h.c0
  have h4 := h.a0
  have h5 := h.am
  unfold Rk.write
  split
  · exact h.mono (by omega)
  · split
    · exact h.mono (by omega)
    · split
      · exact ⟨by simp [Rk.fall]; omega, h3, by simp [Rk.fall]; omega, h4, h5⟩
      · refine ⟨by simp [Rk.put]; omega, by simp [Rk.put]; omega, by simp [Rk.put]; omega, ?_, ?_⟩
        · simp only [Rk.put]; split <;> omega
        · simp only [Rk.put]; split <;> omega
theorem ROk.sync {R : Rk} {N : Nat} (h : ROk R N) : ROk R.sync.2 N := by
  unfold Rk.sync
  split
  · exact h
  · exact ⟨by have := h.gl; simp only [List.length_append, List.length_nil]; omega, h.c0, h.cN, h.a0, h.am⟩
theorem ROk.arm {R : Rk} {N : Nat} {n : Int} (h : ROk R N) (hn : n ≤ 9223372036854775807) : ROk (R.arm n).2 N := by
  unfold Rk.arm
  split
  · exact h
  · split
    · exact h
    · exact ⟨h.gl, h.c0, h.cN, by dsimp only; omega, hn⟩
theorem ROk.restart {R : Rk} {N : Nat} (h : ROk R N) (ks : List Bool) : ROk (R.restart ks) N := by
  refine ⟨?_, h.c0, h.cN, Int.le_refl _, by simp [Rk.restart]⟩
  have := h.gl
  have := kept_len (keeps ks) R.midst R.pend.length R.pend 0
  simp only [Rk.restart, List.length_append, List.length_nil]
  omega
end Go.Proofs.Ytfkkbloapnlbgaa
