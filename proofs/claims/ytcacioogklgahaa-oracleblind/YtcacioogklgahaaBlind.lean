/-
  Sealed bytes tell nothing of the text but its class: two oracles of the same draws that are given texts that are alike tell the same bytes.
-/
import Derived.Test.YtcacioogklgahaaAlive3
import Derived.Test.YtcacioogklgahaaPure5
import Derived.Test.YtcacioogklgahaaSeal
namespace Go.Proofs.Ytcacioogklgahaa
set_option linter.unusedVariables false
set_option synthInstance.maxSize 20000
open Classical
open Go.RowKit Go.Maps

/-- A slice of slices of bytes: element i is V i, and reads as L i. -/
def RdR (w : World) (v : Value) (n : Nat) (V : Nat → Value) (L : Nat → List Int) : Prop :=
  ∃ a cap, v = .slice a n cap ∧ n ≤ cap ∧ cap ≤ maxLen ∧ (0 < n → ∃ b off, a = some ⟨b, off, none⟩ ∧ ∀ i, i < n → w.cell? ⟨b, off + i, none⟩ = some (V i) ∧ Rd w (V i) (L i))

theorem alike_any (v x : Value) (a b : List Int) (w : World) (hv : Rd w v a) (hx : Rd w x b) (ha : a.length ≤ 2000) (hb : b.length ≤ 2000) :
    Calls Try.prog 20 #[v, x] w fun e w' => e = .returned (.bool (decide (cls a.length = cls b.length))) ∧ Below w.heap.size w w' := by
  obtain ⟨av, cv, rfl⟩ := hv.len
  obtain ⟨ax, cx, rfl⟩ := hx.len
  have H : Hid (∀ (l : List Int) w, l.length ≤ 2000 → Calls Try.prog 18 #[.int .i64 l.length] w fun e w' => e = .returned (.int .i64 (cls l.length)) ∧ Below w.heap.size w w') := fun l w hl => by
    have := class_any l.length w (by omega)
    rwa [clsI_nat] at this
  have HA : Hid True := trivial
  go_enter Try.func20, Try.ntmps20
  go_wp2_with fail
  refine (H.out a _ ha).mono ?_
  rintro e w1 ⟨rfl, hb1⟩
  go_wp2_with fail
  refine (H.out b _ hb).mono ?_
  rintro e w2 ⟨rfl, hb2⟩
  go_wp2
  go_ret
  refine ⟨?_, bnext hb1 hb2⟩
  show Ending.returned (.bool (cls a.length == cls b.length)) = _
  by_cases h : cls a.length = cls b.length
  · simp [h]
  · rw [decide_eq_false h]
    simpa using h

/-- Two oracles that a law has made, of blocks of their own. -/
structure Both (W w : World) (b1 b2 : Nat) (f1 f2 : List Nat) (S T : St) : Prop where
  one : At W w b1 f1 S
  two : At W w b2 f2 T
  apart : ∀ k ∈ f1, k ∉ f2

theorem Both.turned {W w : World} {b1 b2 : Nat} {f1 f2 : List Nat} {S T : St} (h : Both W w b1 b2 f1 f2 S T) : Both W w b2 b1 f2 f1 T S := ⟨h.two, h.one, fun k hk e => h.apart k e hk⟩
theorem Both.below {W w w' : World} {b1 b2 : Nat} {f1 f2 : List Nat} {S T : St} (h : Both W w b1 b2 f1 f2 S T) (hb : Below w.heap.size w w') : Both W w' b1 b2 f1 f2 S T := ⟨h.one.below hb, h.two.below hb, h.apart⟩
theorem Both.left {W w w' : World} {b1 b2 : Nat} {f1 f2 : List Nat} {S S' T : St} (h : Both W w b1 b2 f1 f2 S T) (hl : Left w b1 f1 S' w') : ∃ f1', Both W w' b1 b2 f1' f2 S' T := by
  obtain ⟨f1', a, o, t⟩ := h.one.left hl
  exact ⟨f1', a, h.two.turn t (fun k hk e => h.apart k e hk) h.one.new, fun k hk e => by
    rcases o k hk with q | q
    · exact h.apart k q e
    · have := h.two.rep.room k e; omega⟩
theorem Both.leftB {W w w' : World} {b1 b2 : Nat} {f1 f2 : List Nat} {S S' T : St} {v : Value} {l : List Int} (h : Both W w b1 b2 f1 f2 S T) (hl : LeftB w b1 f1 S' w' v l) :
    ∃ f1', Both W w' b1 b2 f1' f2 S' T ∧ Rd w' v l ∧ ∀ w'', Turn f2 w' w'' → Rd w'' v l := by
  obtain ⟨f1', a, rd, q, o, t, n⟩ := h.one.leftB hl
  refine ⟨f1', ⟨a, h.two.turn t (fun k hk e => h.apart k e hk) h.one.new, fun k hk e => ?_⟩, rd, fun w'' ht => rd.turn ht fun k hk e => ?_⟩
  · rcases o k hk with q | q
    · exact h.apart k q e
    · have := h.two.rep.room k e; omega
  · have := (n k hk).1
    have := h.two.rep.room k e
    omega
theorem LeftB.turn {w w' : World} {b : Nat} {ft : List Nat} {S' : St} {v : Value} {l : List Int} (h : LeftB w b ft S' w' v l) : Turn ft w w' := h.2.2.1

theorem new_both (W w : World) (b : Nat) (ft : List Nat) (S : St) (hA : At W w b ft S) (v : Value) (l : List Int) (hv : RdU w v l) (hl : l.length ≤ 1000000) : Calls Try.prog 11 #[v] w fun e w' => ∃ b2, e = .returned (ptr b2) ∧ ∃ f2, Both W w' b b2 ft f2 S ⟨l, []⟩ := by
  refine (new_any v l w hv hl).mono ?_
  rintro e w' ⟨b2, rfl, ⟨f2, hr, hn⟩, hbb⟩
  exact ⟨b2, rfl, f2, hA.below hbb, ⟨hr, fun k hk => Nat.le_trans hA.bel.size (hn k hk), bnext hA.bel hbb⟩, fun k hk e => by
    have := hn k e
    have := hA.rep.room k hk
    omega⟩
end Go.Proofs.Ytcacioogklgahaa
