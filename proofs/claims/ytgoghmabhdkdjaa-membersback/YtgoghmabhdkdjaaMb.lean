/-
  Members, changes and states as lists; their cells in memory; what the program's table says of rows of them.
-/
import Derived.Test.YtgoghmabhdkdjaaArgsD
import Derived.Laws.ResultCell
import Derived.Deep.DeepCutAuto
import Derived.Deep.RegionWith
import Derived.Deep.QuietTactic
import Derived.BigQuiet
namespace Go.Proofs.Ytgoghmabhdkdjaa
set_option linter.unusedVariables false
set_option linter.unusedSimpArgs false
set_option synthInstance.maxSize 20000
set_option maxHeartbeats 2000000
set_option maxRecDepth 20000
open Go.RowKit Go.Maps

/-- A member: Who, Public, From, To, Limit. -/
structure Mb where
  w : Int
  p : Int
  f : Int
  t : Int
  l : Int
def mc (m : Mb) : List Value := [.int .i64 m.w, .int .u64 m.p, .int .i64 m.f, .int .i64 m.t, .int .i64 m.l]
def mv (m : Mb) : Value := .agg #[.int .i64 m.w, .int .u64 m.p, .int .i64 m.f, .int .i64 m.t, .int .i64 m.l]
def zm : Mb := ⟨0, 0, 0, 0, 0⟩
theorem mc_len (m : Mb) : (mc m).length = 5 := rfl
theorem mc_one (m : Mb) : ∀ u ∈ mc m, u.oneCell' = true := fun u hu => by
  simp [mc] at hu
  rcases hu with rfl | rfl | rfl | rfl | rfl <;> rfl
theorem flat_mc_one (l : List Mb) : ∀ u ∈ flat mc l, u.oneCell' = true := flat_one fun x _ => mc_one x
theorem ty26 : RowTy 26 51 5 40 (mv zm) := ⟨by kernel_rfl, by kernel_rfl, rfl, by omega⟩
theorem ty30 : RowTy 30 54 5 40 (mv zm) := ⟨by kernel_rfl, by kernel_rfl, rfl, by omega⟩
theorem info51 : ∃ i, Try.prog.info? 51 = some i ∧ i.zero = some (mv zm) ∧ i.size = 5 ∧ i.bytes = 40 := info_parts ty26.info
/-- A wrap: Who, B. -/
structure Wp where
  w : Int
  b : List Int
abbrev Wq := Wp × Value
def wq (q : Wq) : List Value := [.int .i64 q.1.w, q.2]
theorem wq_len (q : Wq) : (wq q).length = 2 := rfl
theorem ty35 : RowTy 35 81 2 32 (.agg #[.int .i64 0, .slice none 0 0]) := ⟨by kernel_rfl, by kernel_rfl, rfl, by omega⟩
theorem ty40 : RowTy 40 80 2 32 (.agg #[.int .i64 0, .slice none 0 0]) := ⟨by kernel_rfl, by kernel_rfl, rfl, by omega⟩
/-- A change: Kind, Who, Public, Limit, Wraps, Old. -/
structure Cg where
  k : Int
  w : Int
  p : Int
  l : Int
  ws : List Wp
  o : List Int
def cc (c : Cg) (a b : Value) : List Value := [.int .i64 c.k, .int .i64 c.w, .int .u64 c.p, .int .i64 c.l, a, b]
def cv (c : Cg) (a b : Value) : Value := .agg #[.int .i64 c.k, .int .i64 c.w, .int .u64 c.p, .int .i64 c.l, a, b]
/-- The values a, b are the Wraps and the Old of c. -/
structure CgAt (w : World) (c : Cg) (a b : Value) (qs : List Wq) : Prop where
  row : RowF wq w a qs
  rd : ∀ q ∈ qs, Rd w q.2 q.1.b
  ok : ∀ q ∈ qs, I64 q.1.w
  ws : qs.map (·.1) = c.ws
  old : Rd w b c.o
  k : I64 c.k
  w : I64 c.w
  p : U64 c.p
  l : I64 c.l
theorem CgAt.below {w w' : World} {c : Cg} {a b : Value} {qs : List Wq} (h : CgAt w c a b qs) (hb : Below w.heap.size w w') : CgAt w' c a b qs :=
  ⟨h.row.below hb, fun q hq => (h.rd q hq).below hb, h.ok, h.ws, h.old.below hb, h.k, h.w, h.p, h.l⟩
theorem Rd.one {w : World} {v : Value} {l : List Int} (h : Rd w v l) : v.oneCell' = true := by
  obtain ⟨a, c, rfl⟩ := h.len
  rfl
theorem CgAt.one {w : World} {c : Cg} {a b : Value} {qs : List Wq} (h : CgAt w c a b qs) : ∀ u ∈ flat wq qs, u.oneCell' = true := flat_one fun q hq u hu => by
  simp [wq] at hu
  rcases hu with rfl | rfl
  · rfl
  · exact (h.rd q hq).one
theorem CgAt.len {w : World} {c : Cg} {a b : Value} {qs : List Wq} (h : CgAt w c a b qs) : qs.length = c.ws.length := by rw [← h.ws, List.length_map]
/-- A state: members, the last epoch. -/
structure Sm where
  l : List Mb
  e : Int
def stv (v : Value) (e : Int) : Value := .agg #[v, .int .i64 e]
def EOk (e : Int) : Prop := -1 ≤ e ∧ e ≤ 19

/-! ### Find, Now, May, by lists -/
def atW (who : Int) (m : Mb) : Bool := decide (m.w = who)
def findM (l : List Mb) (who : Int) : Option Mb := l.find? (atW who)
def idxM (p : Mb → Bool) (l : List Mb) : Int := match l.findIdx? p with
  | some i => (i : Int)
  | none => -1
def on (m : Mb) : Bool := decide (m.t = -1)
def nowM (l : List Mb) : List Mb := l.filter on
def countsM (m : Mb) (i e : Int) : Bool := decide (m.f ≤ e ∧ (m.t = -1 ∨ (e ≤ m.t ∧ i < m.l)))
def mayM (S : Sm) (who i e : Int) : Int := match findM S.l who with
  | none => 20
  | some m => if e = -1 then (if who = 0 then 0 else 10) else if S.e < e then 7 else if countsM m i e then 0 else 10
end Go.Proofs.Ytgoghmabhdkdjaa
