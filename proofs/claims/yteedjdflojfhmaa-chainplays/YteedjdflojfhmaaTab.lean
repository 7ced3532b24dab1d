/-
  The program's oracle in memory: a block of five cells, its draws, and three maps; its state as plain functions (Tab).
-/
import Derived.Test.YteedjdflojfhmaaTurn
import Derived.Test.YteedjdflojfhmaaRef
import Derived.Test.YteedjdflojfhmaaCmp
namespace Go.Proofs.Yteedjdflojfhmaa
set_option linter.unusedVariables false
set_option synthInstance.maxSize 20000
open Go.RowKit Go.Maps

def thingVal (t : Thing) : Value := .agg #[.int .i64 t.use, .int .u64 t.secret, .int .u64 t.key, .int .i64 t.zeros, .string (strOfNums t.bound), .string (strOfNums t.plain)]
def markVal (h : Int) : Value := .agg #[.int .u64 h]
def nums (s : List UInt8) : List Int := s.map fun b => (b.toNat : Int)
theorem nums_inj {a b : List UInt8} (h : nums a = nums b) : a = b := by
  unfold nums at h
  refine List.map_inj_right (f := fun b : UInt8 => (b.toNat : Int)) (fun x y e => ?_) |>.1 h
  exact UInt8.toNat_inj.1 (by omega)
theorem nums_str (l : List Int) (h : Oct l) : nums (strOfNums l).data.toList = l := sb_strOfNums l h
def litI (M : Int → Option Thing) : Lit → Option Value
  | .int .u64 h => (M h).map thingVal
  | _ => none
def litS (T : List Int → Option Int) : Lit → Option Value
  | .string s => (T (nums s)).map markVal
  | _ => none
theorem litI_at (M : Int → Option Thing) (h : Int) : litI M (.int .u64 h) = (M h).map thingVal := rfl
theorem litS_at (T : List Int → Option Int) (l : List Int) (ho : Oct l) : litS T (.string (strOfNums l).data.toList) = (T l).map markVal := by
  show (T (nums _)).map markVal = _
  rw [nums_str l ho]
theorem litI_upd (M : Int → Option Thing) (h : Int) (t : Thing) : upd (litI M) (.int .u64 h) (thingVal t) = litI (fun x => if x = h then some t else M x) := by
  funext l
  unfold upd
  split
  · rename_i e
    obtain rfl := litB_iff.1 e
    simp [litI]
  · rename_i e
    unfold litI
    split
    · rename_i h'
      show _ = Option.map thingVal (if h' = h then some t else M h')
      rw [if_neg (fun e1 => e (litB_iff.2 (by rw [e1])))]
    · rfl
theorem litS_upd (T : List Int → Option Int) (l : List Int) (ho : Oct l) (h : Int) : upd (litS T) (.string (strOfNums l).data.toList) (markVal h) = litS (fun x => if x = l then some h else T x) := by
  funext s
  unfold upd
  split
  · rename_i e
    obtain rfl := litB_iff.1 e
    simp [litS, nums_str l ho]
  · rename_i e
    unfold litS
    split
    · rename_i s'
      show _ = Option.map markVal (if nums s' = l then some h else T (nums s'))
      rw [if_neg (fun e1 => e (litB_iff.2 (by rw [nums_inj (e1.trans (nums_str l ho).symm)])))]
    · rfl

/-- The oracle's state. -/
structure Tab where
  draws : List Int
  least : Nat
  us : List Int
  made : Int → Option Thing
  hashes : List Int → Option Int
  signed : List Int → Option Int

/-- Its three maps, made or not yet. -/
def IsMaps (w : World) (ft : List Nat) (T : Tab) (m1 m2 m3 : Value) : Prop :=
  (m1 = .map none ∧ m2 = .map none ∧ m3 = .map none ∧ T.us = [] ∧ (∀ t, T.hashes t = none) ∧ (∀ t, T.signed t = none)) ∨
  (∃ b1 b2 b3 n2 n3, m1 = .map (some b1) ∧ m2 = .map (some b2) ∧ m3 = .map (some b3) ∧ b1 ≠ b2 ∧ b1 ≠ b3 ∧ b2 ≠ b3 ∧ b1 ∈ ft ∧ b2 ∈ ft ∧ b3 ∈ ft ∧ n2 ≤ T.us.length ∧ n3 ≤ T.us.length ∧
    MapF Try.prog 32 w b1 T.us.length (litI T.made) ∧ MapF Try.prog 9 w b2 n2 (litS T.hashes) ∧ MapF Try.prog 9 w b3 n3 (litS T.signed))

/-- Block b holds an oracle, whose cells are dv, .., m3. -/
structure IsO (w : World) (b : Nat) (ft : List Nat) (T : Tab) (dv m1 m2 m3 : Value) : Prop where
  blk : Blk w b 82 [dv, .int .u64 T.least, m1, m2, m3]
  foot : b ∈ ft
  draws : RdU w dv T.draws
  apart : ∀ k, dv.ownBlock = some k → k ∈ ft ∧ k ≠ b ∧ m1 ≠ .map (some k) ∧ m2 ≠ .map (some k) ∧ m3 ≠ .map (some k)
  few : T.us.length < 1000000000
  least : T.least ≤ T.us.length + 1
  made : ∀ h, (T.made h).isSome = decide (h ∈ T.us)
  maps : IsMaps w ft T m1 m2 m3
  room : ∀ k ∈ ft, k < w.heap.size

end Go.Proofs.Yteedjdflojfhmaa
