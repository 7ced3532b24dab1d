/-
  A disk as lists: what each call answers, and what is there behind it. No memory is named here.
-/
import Derived.Test.YtkcighejmjgalaaDoorBig
namespace Go.Proofs.YtkcighejmjgalaaDoor
set_option linter.unusedVariables false
set_option linter.unusedSimpArgs false

/-- Bytes as a sector that is not torn. -/
def mkS (l : List Int) : Sec := if h : l.length = 64 ∧ (∀ x ∈ l, 0 ≤ x ∧ x < 256) then ⟨l, false, h.1, h.2⟩ else zs
theorem mkS_eq {l : List Int} (h : l.length = 64) (ho : Oct l) : mkS l = ⟨l, false, h, ho⟩ := by
  unfold mkS
  rw [dif_pos ⟨h, ho⟩]
theorem mkS_t (l : List Int) : (mkS l).t = false := by
  unfold mkS
  split <;> rfl

structure Dk where
  good : List Sec
  now : List Sec
  pend : List Wr
  down : Bool
  armed : Bool
  left : Int
  writes : Int

def newD (n : Nat) : Dk := ⟨List.replicate n zs, List.replicate n zs, [], false, false, 0, 0⟩
def Dk.ready (D : Dk) : Int := if D.down then 19 else 0
def Dk.reach (D : Dk) (i : Int) : Int := if D.down then 19 else if i < 0 ∨ (D.now.length : Int) ≤ i then 2 else 0
def Dk.readS (D : Dk) (i : Int) : Sec := D.now.getD i.toNat zs
def Dk.readK (D : Dk) (i : Int) : Int := if D.reach i ≠ 0 then D.reach i else if (D.readS i).t then 5 else 0
/-- What Read hands out. -/
def Dk.readB (D : Dk) (i : Int) : List Int := if D.readK i = 0 then (D.readS i).d else []
def Dk.put (D : Dk) (i : Nat) (s : Sec) : Dk := { D with now := D.now.set i s, pend := D.pend ++ [(i, s)], writes := D.writes + 1, left := if D.armed then D.left - 1 else D.left }
def Dk.fall (D : Dk) (i : Nat) : Dk := { D with pend := D.pend ++ [(i, ts)], down := true }
def Dk.write (D : Dk) (i : Int) (l : List Int) : Int × Dk :=
  if D.reach i ≠ 0 then (D.reach i, D) else if l.length ≠ 64 then (1, D) else if D.armed = true ∧ D.left = 0 then (19, D.fall i.toNat) else (0, D.put i.toNat (mkS l))
def settle (keep : Nat → Bool) : Nat → List Wr → List Sec → List Sec
  | _, [], g => g
  | k, q :: r, g => settle keep (k + 1) r (if keep k then g.set q.1 q.2 else g)
def Dk.settled (D : Dk) (keep : Nat → Bool) : Dk := { D with good := settle keep 0 D.pend D.good, pend := [] }
def Dk.sync (D : Dk) : Int × Dk := if D.down then (19, D) else (0, D.settled (fun _ => true))
def Dk.arm (D : Dk) (n : Int) : Int × Dk := if D.down then (19, D) else if n < 0 then (1, D) else (0, { D with armed := true, left := n })
def keeps (ks : List Bool) (i : Nat) : Bool := ks.getD i false
def Dk.restart (D : Dk) (ks : List Bool) : Dk := { D.settled (keeps ks) with now := settle (keeps ks) 0 D.pend D.good, down := false, armed := false, left := 0 }

theorem settle_len (keep : Nat → Bool) : ∀ (l : List Wr) (k : Nat) (g : List Sec), (settle keep k l g).length = g.length
  | [], _, _ => rfl
  | q :: r, k, g => by
    unfold settle
    rw [settle_len keep r (k + 1)]
    split
    · rw [List.length_set]
    · rfl
theorem settle_append (keep : Nat → Bool) : ∀ (l m : List Wr) (k : Nat) (g : List Sec), settle keep k (l ++ m) g = settle keep (k + l.length) m (settle keep k l g)
  | [], _, _, _ => rfl
  | q :: r, m, k, g => by
    rw [List.cons_append]
    show settle keep (k + 1) (r ++ m) (if keep k then g.set q.1 q.2 else g) = settle keep (k + (q :: r).length) m (settle keep (k + 1) r (if keep k then g.set q.1 q.2 else g))
    rw [settle_append keep r m (k + 1), List.length_cons, show k + 1 + r.length = k + (r.length + 1) by omega]

structure DOk (D : Dk) (N : Nat) : Prop where
  len : D.good.length = D.now.length
  few : D.now.length ≤ 400
  pos : 0 < D.now.length
  at' : ∀ q ∈ D.pend, q.1 < D.now.length
  pl : D.pend.length ≤ N
  w0 : 0 ≤ D.writes
  wN : D.writes ≤ N
  l0 : 0 ≤ D.left
  lm : D.left ≤ 9223372036854775807

theorem DOk.mono {D : Dk} {N M : Nat} (h : DOk D N) (hN : N ≤ M) : DOk D M := ⟨h.len, h.few, h.pos, h.at', Nat.le_trans h.pl hN, h.w0, by have := h.wN; omega, h.l0, h.lm⟩
theorem newD_ok (n : Nat) (hn : n ≤ 400) (h1 : 1 ≤ n) : DOk (newD n) 0 := ⟨rfl, by simpa [newD] using hn, by simp only [newD, List.length_replicate]; omega, (fun q hq => by cases hq), Nat.le_refl _, Int.le_refl _, Int.le_refl _, Int.le_refl _, by simp [newD]⟩
theorem reach_zero {D : Dk} {i : Int} (h : D.reach i = 0) : D.down = false ∧ 0 ≤ i ∧ i < D.now.length := by
  unfold Dk.reach at h
  split at h
  · cases h
  · rename_i hd
    split at h
    · cases h
    · exact ⟨by simpa using hd, by omega, by omega⟩
theorem DOk.fall {D : Dk} {N i : Nat} (h : DOk D N) (hi : i < D.now.length) : DOk (D.fall i) (N + 1) := by
  refine ⟨h.len, h.few, h.pos, fun q hq => ?_, ?_, h.w0, ?_, h.l0, h.lm⟩
  · rcases List.mem_append.1 hq with hq | hq
    · exact h.at' q hq
    · simp at hq; subst hq; exact hi
  · have := h.pl
    simp [Dk.fall]; omega
  · have := h.wN
    simp [Dk.fall]; omega
theorem DOk.put {D : Dk} {N i : Nat} {s : Sec} (h : DOk D N) (hi : i < D.now.length) (hl : ¬ (D.armed = true ∧ D.left = 0)) : DOk (D.put i s) (N + 1) := by
  have h1 := h.pl
  have h2 := h.wN
  have h3 := h.w0
  have h4 := h.l0
  have h5 := h.lm
  refine ⟨by simp [Dk.put, h.len], by simpa [Dk.put] using h.few, by simpa [Dk.put] using h.pos, fun q hq => ?_, by simp [Dk.put]; omega, by simp [Dk.put]; omega, by simp [Dk.put]; omega, ?_, ?_⟩
  · simp only [Dk.put, List.length_set] at hq ⊢
    rcases List.mem_append.1 hq with hq | hq
    · exact h.at' q hq
    · simp at hq; subst hq; exact hi
  · simp only [Dk.put]
    split
    · rename_i ha
      have : D.left ≠ 0 := fun e => hl ⟨ha, e⟩
      omega
    · exact h4
  · simp only [Dk.put]
    split <;> omega
theorem DOk.write {D : Dk} {N : Nat} {i : Int} {l : List Int} (h : DOk D N) : DOk (D.write i l).2 (N + 1) := by
  unfold Dk.write
  split
  · exact h.mono (by omega)
  · rename_i hr
    obtain ⟨hd, h0, hi⟩ := reach_zero (by simpa using hr : D.reach i = 0)
    split
    · exact h.mono (by omega)
    · split
      · exact h.fall (by omega)
      · rename_i hl
        exact h.put (by omega) hl
theorem DOk.settled {D : Dk} {N : Nat} (h : DOk D N) (keep : Nat → Bool) : DOk (D.settled keep) N :=
  ⟨by simp [Dk.settled, settle_len, h.len], h.few, h.pos, (fun q hq => by cases hq), by simp [Dk.settled], h.w0, h.wN, h.l0, h.lm⟩
theorem DOk.sync {D : Dk} {N : Nat} (h : DOk D N) : DOk D.sync.2 N := by
  unfold Dk.sync
  split
  · exact h
  · exact h.settled _
theorem DOk.arm {D : Dk} {N : Nat} {n : Int} (h : DOk D N) (hn : n ≤ 9223372036854775807) : DOk (D.arm n).2 N := by
  unfold Dk.arm
  split
  · exact h
  · split
    · exact h
    · exact ⟨h.len, h.few, h.pos, h.at', h.pl, h.w0, h.wN, by dsimp only; omega, hn⟩
theorem DOk.restart {D : Dk} {N : Nat} (h : DOk D N) (ks : List Bool) : DOk (D.restart ks) N :=
  ⟨rfl, by simp [Dk.restart, settle_len, h.len, h.few], by simp [Dk.restart, settle_len, h.len, h.pos], (fun q hq => by cases hq), by simp [Dk.restart, Dk.settled], h.w0, h.wN, Int.le_refl _, by simp [Dk.restart]⟩
end Go.Proofs.YtkcighejmjgalaaDoor
