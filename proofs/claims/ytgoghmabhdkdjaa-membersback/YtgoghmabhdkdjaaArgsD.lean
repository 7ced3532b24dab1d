/-
  What comes in, opened: slices of structs, whatever the struct; slices of bools; steps of the laws.
-/
import Derived.Test.YtgoghmabhdkdjaaRowsF
import Derived.Deep.SlicePairs
import Derived.Deep.Slices
import Derived.OpenShut
import Derived.ProofKit
namespace Go.Proofs.Ytgoghmabhdkdjaa
open Go.ChangeShapes Go.WideShapes Go.ChangeAt Go.RowKit
set_option linter.unusedVariables false
set_option linter.unusedSimpArgs false

/-- A slice of bools. -/
def bc (x : Bool) : List Value := [.bool x]
theorem bc_len (x : Bool) : (bc x).length = 1 := rfl

section
variable {H : Type} {enc : TypeId × Value → H} {w : World} {base : Nat} {held : Bool}
set_option maxRecDepth 100000 in
theorem rows_of {α : Type} [Inhabited α] {f : α → List Value} {k : Nat} (hk : ∀ x, (f x).length = k) (hk0 : 0 < k) {t e : TypeId} (ht : Try.prog.underlying t = some (.slice e)) (hc : Try.prog.cellsOf e = k) (p : α → Prop)
    (each : ∀ (n : Nat) (cs : List Value) (y : DataW H × List MemPlace), cs.length = k → DataW.trod enc Try.prog w base (fun _ => true) held n e cs = some y → ∃ x, cs = f x ∧ p x) {fuel : Nat} {v : Value} {d : DataW H × List MemPlace}
    (hf : DataW.trod enc Try.prog w base (fun _ => true) held fuel t [v] = some d) : ∃ l, RowF f w v l ∧ ∀ x ∈ l, p x := by
  rcases Deep.open_slice ht hf with ⟨hcs, _⟩ | ⟨y, len, cap, m, n, D, Pl, hcs, _, hl, hm, hmm, _, hx⟩
  · simp at hcs
    subst hcs
    exact ⟨[], rowF_nil w, fun x hx => by cases hx⟩
  · simp at hcs
    subst hcs
    have hlm : len ≤ m := by rw [hmm]; split <;> omega
    have ea : ∀ i, i < len → ∃ x : α, (∀ j u, (f x)[j]? = some u → w.cell? (y.add (i * k + j)) = some u) ∧ p x := by
      intro i hi
      obtain ⟨cs', h1, h2⟩ := hx i (by omega)
      rw [hc] at h1
      obtain ⟨_, hlen, hcell⟩ := World.cells?_some h1
      obtain ⟨x, rfl, hp⟩ := each _ _ _ hlen h2
      refine ⟨x, fun j u hj => ?_, hp⟩
      have hjk : j < k := by have := (List.getElem?_eq_some_iff.1 hj).1; rw [hk] at this; exact this
      have e1 := hcell j (by omega)
      rw [Deep.add_add] at e1
      rw [e1]
      exact hj
    obtain ⟨z, hz⟩ := Deep.choose_lt ea
    have hget : ∀ i, i < len → ((List.range len).map z)[i]? = some (z i) := fun i hi => by simp [hi]
    refine ⟨(List.range len).map z, ⟨some y, cap, by simp, by simpa using hl, hm, (fun h => by cases h), fun hp => ?_⟩, fun q hq => ?_⟩
    · simp at hp
      obtain ⟨b, off, spot⟩ := y
      have hspot : spot = none := by
        have h1 := (hz 0 hp).1 0 _ (List.getElem?_eq_getElem (by rw [hk]; exact hk0))
        simpa [Addr.add] using World.cell?_spot h1
      subst hspot
      refine ⟨b, off, rfl, fun j u hj => ?_⟩
      have hjl : j < len * k := by
        have := (List.getElem?_eq_some_iff.1 hj).1
        rw [flat_length hk] at this
        simpa using this
      have hlt : j % k < (f (z (j / k))).length := by rw [hk]; exact Nat.mod_lt _ hk0
      have hdiv : j / k < len := Nat.div_lt_of_lt_mul (by rw [Nat.mul_comm]; exact hjl)
      have hdm : j / k * k + j % k = j := by rw [Nat.mul_comm]; exact Nat.div_add_mod j k
      have h1 := flat_at hk (hget (j / k) hdiv) (j % k) _ (List.getElem?_eq_getElem hlt)
      rw [hdm] at h1
      rw [h1] at hj
      have h2 := (hz (j / k) hdiv).1 (j % k) _ (List.getElem?_eq_getElem hlt)
      rw [hdm, Addr.add_lit] at h2
      rw [h2]
      exact hj
    · obtain ⟨i, hi, rfl⟩ := List.mem_map.1 hq
      exact (hz i (List.mem_range.1 hi)).2
end

/-- A step as it came in: Kind, N, By, Short, Keep. -/
structure OpD where
  k : Int
  n : Int
  y : Int
  s : Bool
  ks : List Bool
def oc (q : OpD × Value) : List Value := [.int .i64 q.1.k, .int .i64 q.1.n, .int .u8 q.1.y, .bool q.1.s, q.2]
theorem oc_len (q : OpD × Value) : (oc q).length = 5 := rfl
structure OpOk (w : World) (q : OpD × Value) : Prop where
  k : I64 q.1.k
  n : I64 q.1.n
  y : 0 ≤ q.1.y ∧ q.1.y < 256
  ks : RowF bc w q.2 q.1.ks
def OpsOk (w : World) (qs : List (OpD × Value)) : Prop := ∀ q ∈ qs, OpOk w q

theorem list5 {α : Type} {xs : List α} (h : xs.length = 5) : ∃ c0 c1 c2 c3 c4, xs = [c0, c1, c2, c3, c4] := by
  match xs, h with
  | [c0, c1, c2, c3, c4], _ => exact ⟨c0, c1, c2, c3, c4, rfl⟩
theorem wf_u8 {n : Int} (h : (Lit.int .u8 n).wf = true) : 0 ≤ n ∧ n < 256 := by
  simp [Lit.wf, IntKind.min, IntKind.max, IntKind.signed, IntKind.bits] at h
  omega

end Go.Proofs.Ytgoghmabhdkdjaa
