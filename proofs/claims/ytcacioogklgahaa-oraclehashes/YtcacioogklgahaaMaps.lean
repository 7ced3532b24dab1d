/-
  Maps in memory, over any program, as plain functions from what a key reads as to the value that stands there: look-up, store, count.
-/
import Derived.WalkKit
import Derived.Maps.OwnSet
import Derived.Test.YtcacioogklgahaaBase
namespace Go.Proofs.Ytcacioogklgahaa
set_option linter.unusedVariables false
open Go.RowKit Go.Maps

/-- Every value reads as itself. -/
def rv (v : Value) : Option (DataW Value × List MemPlace) := some (.held v, [])

/-- Are two literals the same? -/
def litB : Lit → Lit → Bool
  | .bool a, .bool b => a == b
  | .int k a, .int m b => decide (k = m) && a == b
  | .float k a, .float m b => decide (k = m) && a == b
  | .string a, .string b => a == b
  | .nil, .nil => true
  | _, _ => false
theorem litB_iff {a b : Lit} : litB a b = true ↔ a = b := by cases a <;> cases b <;> simp [litB]
/-- Another value at one key. -/
def upd (f : Lit → Option Value) (k : Lit) (v : Value) : Lit → Option Value := fun l => if litB l k then some v else f l

/-- What a function says of a map as read. -/
def Tells (D : DataW Value) (f : Lit → Option Value) : Prop :=
  ∀ kl, WideAt.IsKeyLit kl → (f kl = none → has D kl = false) ∧ (∀ v, f kl = some v → has D kl = true ∧ ∀ z, D.atKey kl z = .held v)

/-- Block b is a map of n entries, those that f tells. -/
def MapF (P : Program) (k : TypeId) (w : World) (b n : Nat) (f : Lit → Option Value) : Prop :=
  ∃ m D, w.ownsMap P k rv b m D ∧ Maps.size D = n ∧ Tells D f

section
variable {P : Program} {k : TypeId} {w : World} {b n : Nat} {f : Lit → Option Value}

theorem size_eq_es {m : Nat} {D : DataW Value} (h : w.ownsMap P k rv b m D) : w.ownsMap P k rv b (Maps.size D) D := by
  obtain ⟨es, clock, hb, F, hs, rfl⟩ := h
  refine ⟨es, clock, hb, F, ?_, rfl⟩
  simp [Maps.size, length_sorted]

theorem mapF_made (w : World) (P : Program) (k : TypeId) : MapF P k (w.alloc (.map #[] 0)) w.heap.size 0 (fun _ => none) := by
  refine ⟨0, .map [], World.ownsMap_made w P k rv, rfl, fun kl _ => ⟨fun _ => rfl, fun v h => by cases h⟩⟩

theorem MapF.lt (h : MapF P k w b n f) : b < w.heap.size := by
  obtain ⟨m, D, ho, _⟩ := h
  exact ho.lt

theorem MapF.block {w' : World} (h : MapF P k w b n f) (hb : w'.heap[b]? = w.heap[b]?) : MapF P k w' b n f := by
  obtain ⟨m, D, ⟨es, clock, he, r⟩, hr⟩ := h
  exact ⟨m, D, ⟨es, clock, hb.trans he, r⟩, hr⟩

theorem MapF.look {t e : TypeId} (h : MapF P k w b n f) (K : Keyed P k) (ht : P.underlying t = some (.map k e)) {z : Value} (hz : (zeroValue e).run P w = .ok z w)
    {key : Value} {kl : Lit} (hkey : keyOf P k key = some kl) : (Instr.lookup t (.map (some b)) key false).run P w = .ok ((f kl).getD z) w := by
  obtain ⟨m, D, ho, hs, ht'⟩ := h
  obtain ⟨v, ps, hrun, hv⟩ := ho.lookup K ht hz (zd := .held z) (zp := []) rfl hkey
  obtain ⟨h1, h2⟩ := ht' kl (K.key hkey)
  rw [hrun]
  congr 1
  have hv' : DataW.held v = D.atKey kl (.held z) := (Prod.mk.inj (Option.some.inj hv)).1
  cases hf : f kl with
  | none =>
    rw [atKey_of_not_has (h1 hf)] at hv'
    exact DataW.held.inj hv'
  | some u =>
    rw [(h2 u hf).2] at hv'
    exact DataW.held.inj hv'

theorem MapF.look_ok {t e : TypeId} (h : MapF P k w b n f) (K : Keyed P k) (ht : P.underlying t = some (.map k e)) {z : Value} (hz : (zeroValue e).run P w = .ok z w)
    {key : Value} {kl : Lit} (hkey : keyOf P k key = some kl) : (Instr.lookup t (.map (some b)) key true).run P w = .ok (.tuple #[(f kl).getD z, .bool (f kl).isSome]) w := by
  obtain ⟨m, D, ho, hs, ht'⟩ := h
  obtain ⟨v, ps, hrun, hv⟩ := ho.look_ok K ht hz (zd := .held z) (zp := []) rfl hkey
  obtain ⟨h1, h2⟩ := ht' kl (K.key hkey)
  rw [hrun]
  have hv' : DataW.held v = D.atKey kl (.held z) := (Prod.mk.inj (Option.some.inj hv)).1
  cases hf : f kl with
  | none =>
    rw [atKey_of_not_has (h1 hf)] at hv'
    rw [h1 hf, DataW.held.inj hv']
    rfl
  | some u =>
    rw [(h2 u hf).2] at hv'
    rw [(h2 u hf).1, DataW.held.inj hv']
    rfl

theorem MapF.len {t e : TypeId} (h : MapF P k w b n f) (ht : P.underlying t = some (.map k e)) (ty : TypeId) : (Builtin.len_ #[t] ty #[.map (some b)]).run P w = .ok (.int .i64 n) w := by
  obtain ⟨m, D, ho, hs, ht'⟩ := h
  rw [ho.len ht ty, hs]

theorem MapF.store {t e : TypeId} (h : MapF P k w b n f) (K : Keyed P k) (ht : P.underlying t = some (.map k e)) (hn : n < maxLen) {key val : Value} {kl : Lit} (hkey : keyOf P k key = some kl) :
    ∃ w', (Instr.mapUpdate t (.map (some b)) key val).run P w = .ok () w' ∧ MapF P k w' b (if (f kl).isSome then n else n + 1) (upd f kl val) ∧ w.grownBy w' (some b) := by
  obtain ⟨m, D, ho, hs, ht'⟩ := h
  have hk := K.key hkey
  have htd := ho.tidy K
  have ho1 := size_eq_es ho
  rw [hs] at ho1
  obtain ⟨w', hrun, ho', hg⟩ := ho1.update K ht hn hkey (val := val) (d := .held val) (ps := []) rfl
  refine ⟨w', hrun, ⟨_, _, ho', ?_, ?_⟩, hg⟩
  · rw [size_put htd, hs]
    obtain ⟨h1, h2⟩ := ht' kl hk
    cases hf : f kl with
    | none => rw [h1 hf]; rfl
    | some u => rw [(h2 u hf).1]; rfl
  · intro l hl
    obtain ⟨h1, h2⟩ := ht' l hl
    unfold upd
    by_cases e1 : l = kl
    · subst e1
      rw [if_pos (litB_iff.2 rfl)]
      refine ⟨(fun h => by cases h), fun v hv => ?_⟩
      obtain rfl := Option.some.inj hv
      exact ⟨has_put_same htd.isMap hk _, fun z => atKey_put_same htd.isMap hk _ z⟩
    · rw [if_neg (fun h => e1 (litB_iff.1 h))]
      refine ⟨fun h => by rw [has_put_other e1]; exact h1 h, fun v hv => ?_⟩
      rw [has_put_other e1]
      exact ⟨(h2 v hv).1, fun z => by rw [atKey_put_other e1]; exact (h2 v hv).2 z⟩
end

section
variable {P : Program} {w : World} {ops : Array Oper} {rest : List Oper} {o : Oper} {a : Act} {Q : Exit → Act → World → Prop}

/-- 'm[k]', at the operation. -/
theorem wpList_look {k : TypeId} {b n : Nat} {f : Lit → Option Value} (hg : o.guard = none) (m x : Operand) (t : TypeId) (hop : o.op = Op.lookup t m x false)
    (e : TypeId) (K : Keyed P k) (ht : P.underlying t = some (.map k e)) {z : Value} (hz : (zeroValue e).run P w = .ok z w) (h : MapF P k w b n f) (hm : a.eval m = .map (some b))
    (key : Value) (kl : Lit) (hx : a.eval x = key) (hkey : keyOf P k key = some kl) (u : Value) (hu : (f kl).getD z = u)
    (hK : wpList P ops Q rest (a.put o.dst u) w) : wpList P ops Q (o :: rest) a w := by
  refine wpList_plain hg fun K' hK' => ?_
  unfold Oper.wp
  simp [execOp, hop, hm, hx, h.look K ht hz hkey, Result.andThen]
  rw [hu]
  exact hK' _ _ hK

/-- 'v, ok := m[k]', at the operation. -/
theorem wpList_look_ok {k : TypeId} {b n : Nat} {f : Lit → Option Value} (hg : o.guard = none) (m x : Operand) (t : TypeId) (hop : o.op = Op.lookup t m x true)
    (e : TypeId) (K : Keyed P k) (ht : P.underlying t = some (.map k e)) {z : Value} (hz : (zeroValue e).run P w = .ok z w) (h : MapF P k w b n f) (hm : a.eval m = .map (some b))
    (key : Value) (kl : Lit) (hx : a.eval x = key) (hkey : keyOf P k key = some kl) (u : Value) (c : Bool) (hu : (f kl).getD z = u) (hc : (f kl).isSome = c)
    (hK : wpList P ops Q rest (a.put o.dst (.tuple #[u, .bool c])) w) : wpList P ops Q (o :: rest) a w := by
  refine wpList_plain hg fun K' hK' => ?_
  unfold Oper.wp
  simp [execOp, hop, hm, hx, h.look_ok K ht hz hkey, Result.andThen]
  rw [hu, hc]
  exact hK' _ _ hK

/-- 'm[k] = v', at the operation. -/
theorem wpList_store {k : TypeId} {b n : Nat} {f : Lit → Option Value} (hg : o.guard = none) (m x v : Operand) (t : TypeId) (hop : o.op = Op.mapUpdate t m x v)
    (e : TypeId) (K : Keyed P k) (ht : P.underlying t = some (.map k e)) (h : MapF P k w b n f) (hn : n < maxLen) (hm : a.eval m = .map (some b))
    (key val : Value) (kl : Lit) (hx : a.eval x = key) (hv : a.eval v = val) (hkey : keyOf P k key = some kl)
    (hK : ∀ w', MapF P k w' b (if (f kl).isSome then n else n + 1) (upd f kl val) → w.grownBy w' (some b) → wpList P ops Q rest (a.put o.dst undef) w') : wpList P ops Q (o :: rest) a w := by
  refine wpList_plain hg fun K' hK' => ?_
  obtain ⟨w', hrun, r1, r2⟩ := h.store (val := val) K ht hn hkey
  unfold Oper.wp
  simp [execOp, hop, hm, hx, hv, hrun, Result.andThen]
  exact hK' _ _ (hK w' r1 r2)
end
end Go.Proofs.Ytcacioogklgahaa
