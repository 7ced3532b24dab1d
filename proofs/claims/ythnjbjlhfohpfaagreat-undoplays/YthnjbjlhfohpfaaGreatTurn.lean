/-
  Maps in memory, over any program, as plain functions from what a key reads as to the value that stands there: look-up, store, count.
  Which blocks a call writes (Turn), slices of uint64 in memory (RdU), over any program.
-/
import Derived.WalkKit
import Derived.Maps.OwnSet
import Derived.Test.YthnjbjlhfohpfaaGreatBase
import Derived.Test.YthnjbjlhfohpfaaGreatRef
namespace Go.Proofs.YthnjbjlhfohpfaaGreat
section
set_option linter.unusedVariables false
open Go.RowKit Go.Maps

/-- Every value reads as itself. -/
def rv (v : Value) : Option (DataW Value × List MemPlace) := some (.held v, [])

/-- Are two literals the same? -/
def litB : Lit → Lit → Bool
  | .bool a, .bool b => a == b
  | .int k a, .int m b => decide (k = m) && a == b
  | .float k a, .float m b => decide (k = m) && a == b
  | .string a, .string b => a == b
  | .nil, .nil => true
  | _, _ => false
theorem litB_iff {a b : Lit} : litB a b = true ↔ a = b := by cases a <;> cases b <;> simp [litB]
/-- Another value at one key. -/
def upd (f : Lit → Option Value) (k : Lit) (v : Value) : Lit → Option Value := fun l => if litB l k then some v else f l

/-- What a function says of a map as read. -/
def Tells (D : DataW Value) (f : Lit → Option Value) : Prop :=
  ∀ kl, WideAt.IsKeyLit kl → (f kl = none → has D kl = false) ∧ (∀ v, f kl = some v → has D kl = true ∧ ∀ z, D.atKey kl z = .held v)

/-- Block b is a map of n entries, those that f tells. -/
def MapF (P : Program) (k : TypeId) (w : World) (b n : Nat) (f : Lit → Option Value) : Prop :=
  ∃ m D, w.ownsMap P k rv b m D ∧ Maps.size D = n ∧ Tells D f

section
variable {P : Program} {k : TypeId} {w : World} {b n : Nat} {f : Lit → Option Value}

theorem size_eq_es {m : Nat} {D : DataW Value} (h : w.ownsMap P k rv b m D) : w.ownsMap P k rv b (Maps.size D) D := by
  obtain ⟨es, clock, hb, F, hs, rfl⟩ := h
  refine ⟨es, clock, hb, F, ?_, rfl⟩
  simp [Maps.size, length_sorted]

theorem mapF_made (w : World) (P : Program) (k : TypeId) : MapF P k (w.alloc (.map #[] 0)) w.heap.size 0 (fun _ => none) := by
  refine ⟨0, .map [], World.ownsMap_made w P k rv, rfl, fun kl _ => ⟨fun _ => rfl, fun v h => by cases h⟩⟩

theorem MapF.lt (h : MapF P k w b n f) : b < w.heap.size := by
  obtain ⟨m, D, ho, _⟩ := h
  exact ho.lt

theorem MapF.block {w' : World} (h : MapF P k w b n f) (hb : w'.heap[b]? = w.heap[b]?) : MapF P k w' b n f := by
  obtain ⟨m, D, ⟨es, clock, he, r⟩, hr⟩ := h
  exact ⟨m, D, ⟨es, clock, hb.trans he, r⟩, hr⟩

theorem MapF.look {t e : TypeId} (h : MapF P k w b n f) (K : Keyed P k) (ht : P.underlying t = some (.map k e)) {z : Value} (hz : (zeroValue e).run P w = .ok z w)
    {key : Value} {kl : Lit} (hkey : keyOf P k key = some kl) : (Instr.lookup t (.map (some b)) key false).run P w = .ok ((f kl).getD z) w := by
  obtain ⟨m, D, ho, hs, ht'⟩ := h
  obtain ⟨v, ps, hrun, hv⟩ := ho.lookup K ht hz (zd := .held z) (zp := []) rfl hkey
  obtain ⟨h1, h2⟩ := ht' kl (K.key hkey)
  rw [hrun]
  congr 1
  have hv' : DataW.held v = D.atKey kl (.held z) := (Prod.mk.inj (Option.some.inj hv)).1
  cases hf : f kl with
  | none =>
    rw [atKey_of_not_has (h1 hf)] at hv'
    exact DataW.held.inj hv'
  | some u =>
    rw [(h2 u hf).2] at hv'
    exact DataW.held.inj hv'

theorem MapF.look_ok {t e : TypeId} (h : MapF P k w b n f) (K : Keyed P k) (ht : P.underlying t = some (.map k e)) {z : Value} (hz : (zeroValue e).run P w = .ok z w)
    {key : Value} {kl : Lit} (hkey : keyOf P k key = some kl) : (Instr.lookup t (.map (some b)) key true).run P w = .ok (.tuple #[(f kl).getD z, .bool (f kl).isSome]) w := by
  obtain ⟨m, D, ho, hs, ht'⟩ := h
  obtain ⟨v, ps, hrun, hv⟩ := ho.look_ok K ht hz (zd := .held z) (zp := []) rfl hkey
  obtain ⟨h1, h2⟩ := ht' kl (K.key hkey)
  rw [hrun]
  have hv' : DataW.held v = D.atKey kl (.held z) := (Prod.mk.inj (Option.some.inj hv)).1
  cases hf : f kl with
  | none =>
    rw [atKey_of_not_has (h1 hf)] at hv'
    rw [h1 hf, DataW.held.inj hv']
    rfl
  | some u =>
    rw [(h2 u hf).2] at hv'
    rw [(h2 u hf).1, DataW.held.inj hv']
    rfl

theorem MapF.len {t e : TypeId} (h : MapF P k w b n f) (ht : P.underlying t = some (.map k e)) (ty : TypeId) : (Builtin.len_ #[t] ty #[.map (some b)]).run P w = .ok (.int .i64 n) w := by
  obtain ⟨m, D, ho, hs, ht'⟩ := h
  rw [ho.len ht ty, hs]

theorem MapF.store {t e : TypeId} (h : MapF P k w b n f) (K : Keyed P k) (ht : P.underlying t = some (.map k e)) (hn : n < maxLen) {key val : Value} {kl : Lit} (hkey : keyOf P k key = some kl) :
    ∃ w', (Instr.mapUpdate t (.map (some b)) key val).run P w = .ok () w' ∧ MapF P k w' b (if (f kl).isSome then n else n + 1) (upd f kl val) ∧ w.grownBy w' (some b) := by
  obtain ⟨m, D, ho, hs, ht'⟩ := h
  have hk := K.key hkey
  have htd := ho.tidy K
  have ho1 := size_eq_es ho
  rw [hs] at ho1
  obtain ⟨w', hrun, ho', hg⟩ := ho1.update K ht hn hkey (val := val) (d := .held val) (ps := []) rfl
  refine ⟨w', hrun, ⟨_, _, ho', ?_, ?_⟩, hg⟩
  · rw [size_put htd, hs]
    obtain ⟨h1, h2⟩ := ht' kl hk
    cases hf : f kl with
    | none => rw [h1 hf]; rfl
    | some u => rw [(h2 u hf).1]; rfl
  · intro l hl
    obtain ⟨h1, h2⟩ := ht' l hl
    unfold upd
    by_cases e1 : l = kl
    · subst e1
      rw [if_pos (litB_iff.2 rfl)]
      refine ⟨(fun h => by cases h), fun v hv => ?_⟩
      obtain rfl := Option.some.inj hv
      exact ⟨has_put_same htd.isMap hk _, fun z => atKey_put_same htd.isMap hk _ z⟩
    · rw [if_neg (fun h => e1 (litB_iff.1 h))]
      refine ⟨fun h => by rw [has_put_other e1]; exact h1 h, fun v hv => ?_⟩
      rw [has_put_other e1]
      exact ⟨(h2 v hv).1, fun z => by rw [atKey_put_other e1]; exact (h2 v hv).2 z⟩
end

section
variable {P : Program} {w : World} {ops : Array Oper} {rest : List Oper} {o : Oper} {a : Act} {Q : Exit → Act → World → Prop}

/-- 'm[k]', at the operation. -/
theorem wpList_look {k : TypeId} {b n : Nat} {f : Lit → Option Value} (hg : o.guard = none) (m x : Operand) (t : TypeId) (hop : o.op = Op.lookup t m x false)
    (e : TypeId) (K : Keyed P k) (ht : P.underlying t = some (.map k e)) {z : Value} (hz : (zeroValue e).run P w = .ok z w) (h : MapF P k w b n f) (hm : a.eval m = .map (some b))
    (key : Value) (kl : Lit) (hx : a.eval x = key) (hkey : keyOf P k key = some kl) (u : Value) (hu : (f kl).getD z = u)
    (hK : wpList P ops Q rest (a.put o.dst u) w) : wpList P ops Q (o :: rest) a w := by
  refine wpList_plain hg fun K' hK' => ?_
  unfold Oper.wp
  simp [execOp, hop, hm, hx, h.look K ht hz hkey, Result.andThen]
  rw [hu]
  exact hK' _ _ hK

/-- 'v, ok := m[k]', at the operation. -/
theorem wpList_look_ok {k : TypeId} {b n : Nat} {f : Lit → Option Value} (hg : o.guard = none) (m x : Operand) (t : TypeId) (hop : o.op = Op.lookup t m x true)
    (e : TypeId) (K : Keyed P k) (ht : P.underlying t = some (.map k e)) {z : Value} (hz : (zeroValue e).run P w = .ok z w) (h : MapF P k w b n f) (hm : a.eval m = .map (some b))
    (key : Value) (kl : Lit) (hx : a.eval x = key) (hkey : keyOf P k key = some kl) (u : Value) (c : Bool) (hu : (f kl).getD z = u) (hc : (f kl).isSome = c)
    (hK : wpList P ops Q rest (a.put o.dst (.tuple #[u, .bool c])) w) : wpList P ops Q (o :: rest) a w := by
  refine wpList_plain hg fun K' hK' => ?_
  unfold Oper.wp
  simp [execOp, hop, hm, hx, h.look_ok K ht hz hkey, Result.andThen]
  rw [hu, hc]
  exact hK' _ _ hK

/-- 'm[k] = v', at the operation. -/
theorem wpList_store {k : TypeId} {b n : Nat} {f : Lit → Option Value} (hg : o.guard = none) (m x v : Operand) (t : TypeId) (hop : o.op = Op.mapUpdate t m x v)
    (e : TypeId) (K : Keyed P k) (ht : P.underlying t = some (.map k e)) (h : MapF P k w b n f) (hn : n < maxLen) (hm : a.eval m = .map (some b))
    (key val : Value) (kl : Lit) (hx : a.eval x = key) (hv : a.eval v = val) (hkey : keyOf P k key = some kl)
    (hK : ∀ w', MapF P k w' b (if (f kl).isSome then n else n + 1) (upd f kl val) → w.grownBy w' (some b) → wpList P ops Q rest (a.put o.dst undef) w') : wpList P ops Q (o :: rest) a w := by
  refine wpList_plain hg fun K' hK' => ?_
  obtain ⟨w', hrun, r1, r2⟩ := h.store (val := val) K ht hn hkey
  unfold Oper.wp
  simp [execOp, hop, hm, hx, hv, hrun, Result.andThen]
  exact hK' _ _ (hK w' r1 r2)
end
end

section
set_option linter.unusedVariables false
set_option synthInstance.maxSize 20000
open Go.RowKit

/-- From w to w' no block was written but those of ft, and new ones. -/
structure Turn (ft : List Nat) (w w' : World) : Prop where
  os : w'.os = w.os
  tape : w'.tape = w.tape
  output : w'.output = w.output
  size : w.heap.size ≤ w'.heap.size
  block : ∀ k, k < w.heap.size → k ∉ ft → w'.heap[k]? = w.heap[k]?

theorem Turn.refl (ft : List Nat) (w : World) : Turn ft w w := ⟨rfl, rfl, rfl, Nat.le_refl _, fun _ _ _ => rfl⟩
/-- ft1 are blocks of ft, or new ones. -/
def Of (ft : List Nat) (w : World) (ft1 : List Nat) : Prop := ∀ k ∈ ft1, k ∈ ft ∨ w.heap.size ≤ k
theorem Of.refl (ft : List Nat) (w : World) : Of ft w ft := fun k h => .inl h
theorem Of.trans {ft ft1 ft2 : List Nat} {w w1 : World} (h : Of ft w ft1) (h1 : Of ft1 w1 ft2) (hs : w.heap.size ≤ w1.heap.size) : Of ft w ft2 := fun k hk => by
  rcases h1 k hk with h2 | h2
  · exact h k h2
  · exact .inr (Nat.le_trans hs h2)
theorem Turn.trans {ft ft1 : List Nat} {w w1 w2 : World} (h : Turn ft w w1) (h1 : Turn ft1 w1 w2) (hf : Of ft w ft1) : Turn ft w w2 :=
  ⟨h1.os.trans h.os, h1.tape.trans h.tape, h1.output.trans h.output, Nat.le_trans h.size h1.size, fun k hk hn => by
    rw [h1.block k (Nat.lt_of_lt_of_le hk h.size) (fun e => by
      rcases hf k e with r | r
      · exact hn r
      · omega), h.block k hk hn]⟩
theorem Turn.same {ft : List Nat} {w w1 w2 : World} (h : Turn ft w w1) (h1 : Turn ft w1 w2) : Turn ft w w2 := h.trans h1 (Of.refl _ _)
theorem Turn.of_below {ft : List Nat} {w w' : World} (h : Below w.heap.size w w') : Turn ft w w' := ⟨h.os, h.tape, h.output, h.size, fun k hk _ => h.block k hk⟩
theorem Turn.of_grown {ft : List Nat} {w w' : World} {b : Nat} (h : w.grownBy w' (some b)) (hb : b ∈ ft) : Turn ft w w' :=
  ⟨h.os, h.tape, h.output, h.size, fun k hk hn => h.block k hk (fun e => hn (by cases e; exact hb))⟩
theorem Turn.of_new {ft : List Nat} {w w' : World} {b : Nat} (h : w.grownBy w' (some b)) (hb : w.heap.size ≤ b) : Turn ft w w' :=
  ⟨h.os, h.tape, h.output, h.size, fun k hk hn => h.block k hk (fun e => by cases e; omega)⟩
theorem Turn.alloc {ft : List Nat} {w w' : World} (h : Turn ft w w') (o : Obj) : Turn ft w (w'.alloc o) :=
  h.same (Turn.of_below ((Below.refl _ _).alloc (Nat.le_refl _) o))
theorem Turn.drew {ft : List Nat} {w w' : World} (h : Turn ft w w') : Turn ft w w'.drew := ⟨h.os, h.tape, h.output, h.size, h.block⟩
theorem Turn.below {ft : List Nat} {w w' : World} (h : Turn ft w w') {B : Nat} (hB : B ≤ w.heap.size) (hf : ∀ k ∈ ft, B ≤ k) : Below B w w' :=
  ⟨h.os, h.tape, h.output, h.size, fun k hk => h.block k (by omega) (fun e => by have := hf k e; omega)⟩
theorem Turn.nil_below {w w' : World} (h : Turn [] w w') : Below w.heap.size w w' := h.below (Nat.le_refl _) (fun k h => by cases h)
theorem Turn.widen {ft ft' : List Nat} {w w' : World} (h : Turn ft w w') (hf : ∀ k ∈ ft, k ∈ ft') : Turn ft' w w' := ⟨h.os, h.tape, h.output, h.size, fun k hk hn => h.block k hk (fun e => hn (hf k e))⟩

/-- A value's block lies outside. -/
def Out (ft : List Nat) (v : Value) : Prop := ∀ k, v.ownBlock = some k → k ∉ ft
theorem Out.of {ft ft1 : List Nat} {w : World} {v : Value} (h : Out ft v) (hf : Of ft w ft1) (hl : ∀ k, v.ownBlock = some k → k < w.heap.size) : Out ft1 v := fun k hk e => by
  rcases hf k e with r | r
  · exact h k hk r
  · have := hl k hk; omega

theorem Rd.turn {ft : List Nat} {w w' : World} {v : Value} {l : List Int} (h : Rd w v l) (ht : Turn ft w w') (ho : Out ft v) : Rd w' v l := by
  obtain ⟨ho', a, cap, rfl, h1, h2, h3, h4⟩ := h
  refine ⟨ho', a, cap, rfl, h1, h2, h3, fun hp => ?_⟩
  obtain ⟨b, off, rfl, hc⟩ := h4 hp
  refine ⟨b, off, rfl, fun j hj => ?_⟩
  rw [World.cell?_of_block (ht.block b (World.block_lt_of_cell? w _ (hc j hj)) (ho b rfl))]
  exact hc j hj

/-- The slice value v reads as the numbers l (uint64). -/
def RdU (w : World) (v : Value) (l : List Int) : Prop :=
  (∀ x ∈ l, U64 x) ∧ ∃ (a : Option Addr) (cap : Nat), v = .slice a l.length cap ∧ l.length ≤ cap ∧ cap ≤ maxLen ∧ (a = none → cap = 0) ∧
    (0 < l.length → ∃ b off, a = some ⟨b, off, none⟩ ∧ ∀ j, j < l.length → w.cell? ⟨b, off + j, none⟩ = some (.int .u64 (l.getD j 0)))

theorem rdU_nil (w : World) : RdU w (.slice none 0 0) [] := ⟨(fun _ h => by cases h), none, 0, rfl, Nat.le_refl _, Nat.zero_le _, fun _ => rfl, fun h => by simp at h⟩
theorem RdU.turn {ft : List Nat} {w w' : World} {v : Value} {l : List Int} (h : RdU w v l) (ht : Turn ft w w') (ho : Out ft v) : RdU w' v l := by
  obtain ⟨ho', a, cap, rfl, h1, h2, h3, h4⟩ := h
  refine ⟨ho', a, cap, rfl, h1, h2, h3, fun hp => ?_⟩
  obtain ⟨b, off, rfl, hc⟩ := h4 hp
  refine ⟨b, off, rfl, fun j hj => ?_⟩
  rw [World.cell?_of_block (ht.block b (World.block_lt_of_cell? w _ (hc j hj)) (ho b rfl))]
  exact hc j hj
/-- Enough that its own block stands. -/
theorem RdU.block {w w' : World} {v : Value} {l : List Int} (h : RdU w v l) (hb : ∀ k, v.ownBlock = some k → k < w.heap.size → w'.heap[k]? = w.heap[k]?) : RdU w' v l := by
  obtain ⟨ho', a, cap, rfl, h1, h2, h3, h4⟩ := h
  refine ⟨ho', a, cap, rfl, h1, h2, h3, fun hp => ?_⟩
  obtain ⟨b, off, rfl, hc⟩ := h4 hp
  refine ⟨b, off, rfl, fun j hj => ?_⟩
  rw [World.cell?_of_block (hb b rfl (World.block_lt_of_cell? w _ (hc j hj)))]
  exact hc j hj
/-- v[1:]. -/
theorem rdU_tail {w : World} {a : Option Addr} {cap : Nat} {x : Int} {l : List Int} (h : RdU w (.slice a (l.length + 1) cap) (x :: l)) (hne : ¬ cap = 1) : RdU w (.slice (Option.map (fun y => y.add 1) a) l.length (cap - 1)) l := by
  obtain ⟨ho, a', cap', e, h1, h2, h3, h4⟩ := h
  obtain ⟨rfl, rfl⟩ : a = a' ∧ cap = cap' := by simpa using e
  simp at h1
  refine ⟨fun y hy => ho y (List.mem_cons_of_mem _ hy), _, cap - 1, rfl, by omega, by omega, fun hn => ?_, fun hp => ?_⟩
  · have := h3 (by simpa using hn)
    omega
  · obtain ⟨b, off, rfl, hc⟩ := h4 (by simp)
    refine ⟨b, off + 1, by rw [Option.map_some, Addr.add_lit], fun j hj => ?_⟩
    rw [Nat.add_assoc, Nat.add_comm 1 j, hc (j + 1) (by simpa using hj)]
    simp
theorem rdU_tail0 {w : World} {a : Option Addr} {x : Int} {l : List Int} (h : RdU w (.slice a (l.length + 1) 1) (x :: l)) : RdU w (.slice a l.length 0) l := by
  obtain ⟨ho, a', cap', e, h1, h2, h3, h4⟩ := h
  obtain ⟨rfl, rfl⟩ : a = a' ∧ 1 = cap' := by simpa using e
  simp at h1
  subst h1
  exact ⟨(fun _ h => by cases h), a, 0, rfl, Nat.le_refl _, Nat.zero_le _, fun _ => rfl, fun h => by simp at h⟩
end
end Go.Proofs.YthnjbjlhfohpfaaGreat
