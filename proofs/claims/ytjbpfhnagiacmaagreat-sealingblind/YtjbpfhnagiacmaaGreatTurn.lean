/-
  Maps in memory, over any program, as plain functions from what a key reads as to the value that stands there: look-up, store, count.
  Which blocks a call writes (Turn), slices of uint64 in memory (RdU), over any program.
  Owners of blocks: who may write which block; what a step turns (Mv); bytes that stay (Kp0). Where append leaves a row.
-/
import Derived.WalkKit
import Derived.Maps.OwnSet
import Derived.Test.YtjbpfhnagiacmaaGreatBase
import Derived.Test.YtjbpfhnagiacmaaGreatRef
import Derived.WalkSmall
import Derived.Laws.OwnMore
import Derived.Laws.MakeOwn
namespace Go.Proofs.YtjbpfhnagiacmaaGreat
section
section
set_option linter.unusedVariables false
open Go.RowKit Go.Maps
def rv (v : Value) : Option (DataW Value × List MemPlace) := some (.held v, [])
def litB : Lit → Lit → Bool
  | .bool a, .bool b => a == b
  | .int k a, .int m b => decide (k = m) && a == b
  | .float k a, .float m b => decide (k = m) && a == b
  | .string a, .string b => a == b
  | .nil, .nil => true
  | _, _ => false
theorem litB_iff {a b : Lit} : litB a b = true ↔ a = b := by cases a <;> cases b <;> simp [litB]
def upd (f : Lit → Option Value) (k : Lit) (v : Value) : Lit → Option Value := fun l => if litB l k then some v else f l
def Tells (D : DataW Value) (f : Lit → Option Value) : Prop :=
  ∀ kl, WideAt.IsKeyLit kl → (f kl = none → has D kl = false) ∧ (∀ v, f kl = some v → has D kl = true ∧ ∀ z, D.atKey kl z = .held v)
def MapF (P : Program) (k : TypeId) (w : World) (b n : Nat) (f : Lit → Option Value) : Prop :=
  ∃ m D, w.ownsMap P k rv b m D ∧ Maps.size D = n ∧ Tells D f
section
variable {P : Program} {k : TypeId} {w : World} {b n : Nat} {f : Lit → Option Value}
theorem size_eq_es {m : Nat} {D : DataW Value} (h : w.ownsMap P k rv b m D) : w.ownsMap P k rv b (Maps.size D) D := by
  obtain ⟨es, clock, hb, F, hs, rfl⟩ := h
  refine ⟨es, clock, hb, F, ?_, rfl⟩
  simp [Maps.size, length_sorted]
theorem mapF_made (w : World) (P : Program) (k : TypeId) : MapF P k (w.alloc (.map #[] 0)) w.heap.size 0 (fun _ => none) := by
  refine ⟨0, .map [], World.ownsMap_made w P k rv, rfl, fun kl _ => ⟨fun _ => rfl, fun v h => by cases h⟩⟩
theorem MapF.lt (h : MapF P k w b n f) : b < w.heap.size := by
  obtain ⟨m, D, ho, _⟩ := h
  exact ho.lt
theorem MapF.block {w' : World} (h : MapF P k w b n f) (hb : w'.heap[b]? = w.heap[b]?) : MapF P k w' b n f := by
  obtain ⟨m, D, ⟨es, clock, he, r⟩, hr⟩ := h
  exact ⟨m, D, ⟨es, clock, hb.trans he, r⟩, hr⟩
theorem MapF.look {t e : TypeId} (h : MapF P k w b n f) (K : Keyed P k) (ht : P.underlying t = some (.map k e)) {z : Value} (hz : (zeroValue e).run P w = .ok z w)
    {key : Value} {kl : Lit} (hkey : keyOf P k key = some kl) : (Instr.lookup t (.map (some b)) key false).run P w = .ok ((f kl).getD z) w := by
  obtain ⟨m, D, ho, hs, ht'⟩ := h
  obtain ⟨v, ps, hrun, hv⟩ := ho.lookup K ht hz (zd := .held z) (zp := []) rfl hkey
  obtain ⟨h1, h2⟩ := ht' kl (K.key hkey)
  rw [hrun]
  congr 1
  have hv' : DataW.held v = D.atKey kl (.held z) := (Prod.mk.inj (Option.some.inj hv)).1
  cases hf : f kl with
  | none =>
    rw [atKey_of_not_has (h1 hf)] at hv'
    exact DataW.held.inj hv'
  | some u =>
    rw [(h2 u hf).2] at hv'
    exact DataW.held.inj hv'
theorem MapF.look_ok {t e : TypeId} (h : MapF P k w b n f) (K : Keyed P k) (ht : P.underlying t = some (.map k e)) {z : Value} (hz : (zeroValue e).run P w = .ok z w)
    {key : Value} {kl : Lit} (hkey : keyOf P k key = some kl) : (Instr.lookup t (.map (some b)) key true).run P w = .ok (.tuple #[(f kl).getD z, .bool (f kl).isSome]) w := by
  obtain ⟨m, D, ho, hs, ht'⟩ := h
  obtain ⟨v, ps, hrun, hv⟩ := ho.look_ok K ht hz (zd := .held z) (zp := []) rfl hkey
  obtain ⟨h1, h2⟩ := ht' kl (K.key hkey)
  rw [hrun]
  have hv' : DataW.held v = D.atKey kl (.held z) := (Prod.mk.inj (Option.some.inj hv)).1
  cases hf : f kl with
  | none =>
    rw [atKey_of_not_has (h1 hf)] at hv'
    rw [h1 hf, DataW.held.inj hv']
    rfl
  | some u =>
    rw [(h2 u hf).2] at hv'
    rw [(h2 u hf).1, DataW.held.inj hv']
    rfl
theorem MapF.len {t e : TypeId} (h : MapF P k w b n f) (ht : P.underlying t = some (.map k e)) (ty : TypeId) : (Builtin.len_ #[t] ty #[.map (some b)]).run P w = .ok (.int .i64 n) w := by
  obtain ⟨m, D, ho, hs, ht'⟩ := h
  rw [ho.len ht ty, hs]
theorem MapF.store {t e : TypeId} (h : MapF P k w b n f) (K : Keyed P k) (ht : P.underlying t = some (.map k e)) (hn : n < maxLen) {key val : Value} {kl : Lit} (hkey : keyOf P k key = some kl) :
    ∃ w', (Instr.mapUpdate t (.map (some b)) key val).run P w = .ok () w' ∧ MapF P k w' b (if (f kl).isSome then n else n + 1) (upd f kl val) ∧ w.grownBy w' (some b) := by
  obtain ⟨m, D, ho, hs, ht'⟩ := h
  have hk := K.key hkey
  have htd := ho.tidy K
  have ho1 := size_eq_es ho
  rw [hs] at ho1
  obtain ⟨w', hrun, ho', hg⟩ := ho1.update K ht hn hkey (val := val) (d := .held val) (ps := []) rfl
  refine ⟨w', hrun, ⟨_, _, ho', ?_, ?_⟩, hg⟩
  · rw [size_put htd, hs]
    obtain ⟨h1, h2⟩ := ht' kl hk
    cases hf : f kl with
    | none => rw [h1 hf]; rfl
    | some u => rw [(h2 u hf).1]; rfl
  · intro l hl
    obtain ⟨h1, h2⟩ := ht' l hl
    unfold upd
    by_cases e1 : l = kl
    · subst e1
      rw [if_pos (litB_iff.2 rfl)]
      refine ⟨(fun h => by cases h), fun v hv => ?_⟩
      obtain rfl := Option.some.inj hv
      exact ⟨has_put_same htd.isMap hk _, fun z => atKey_put_same htd.isMap hk _ z⟩
    · rw [if_neg (fun h => e1 (litB_iff.1 h))]
      refine ⟨fun h => by rw [has_put_other e1]; exact h1 h, fun v hv => ?_⟩
      rw [has_put_other e1]
      exact ⟨(h2 v hv).1, fun z => by rw [atKey_put_other e1]; exact (h2 v hv).2 z⟩
end
section
variable {P : Program} {w : World} {ops : Array Oper} {rest : List Oper} {o : Oper} {a : Act} {Q : Exit → Act → World → Prop}
theorem wpList_store {k : TypeId} {b n : Nat} {f : Lit → Option Value} (hg : o.guard = none) (m x v : Operand) (t : TypeId) (hop : o.op = Op.mapUpdate t m x v)
    (e : TypeId) (K : Keyed P k) (ht : P.underlying t = some (.map k e)) (h : MapF P k w b n f) (hn : n < maxLen) (hm : a.eval m = .map (some b))
    (key val : Value) (kl : Lit) (hx : a.eval x = key) (hv : a.eval v = val) (hkey : keyOf P k key = some kl)
    (hK : ∀ w', MapF P k w' b (if (f kl).isSome then n else n + 1) (upd f kl val) → w.grownBy w' (some b) → wpList P ops Q rest (a.put o.dst undef) w') : wpList P ops Q (o :: rest) a w := by
  refine wpList_plain hg fun K' hK' => ?_
  obtain ⟨w', hrun, r1, r2⟩ := h.store (val := val) K ht hn hkey
  unfold Oper.wp
  simp [execOp, hop, hm, hx, hv, hrun, Result.andThen]
  exact hK' _ _ (hK w' r1 r2)
end
end
section
set_option linter.unusedVariables false
set_option synthInstance.maxSize 20000
open Go.RowKit
structure Turn (ft : List Nat) (w w' : World) : Prop where
  os : w'.os = w.os
  tape : w'.tape = w.tape
  output : w'.output = w.output
  size : w.heap.size ≤ w'.heap.size
  block : ∀ k, k < w.heap.size → k ∉ ft → w'.heap[k]? = w.heap[k]?
theorem Turn.refl (ft : List Nat) (w : World) : Turn ft w w := ⟨rfl, rfl, rfl, Nat.le_refl _, fun _ _ _ => rfl⟩
def Of (ft : List Nat) (w : World) (ft1 : List Nat) : Prop := ∀ k ∈ ft1, k ∈ ft ∨ w.heap.size ≤ k
theorem Of.refl (ft : List Nat) (w : World) : Of ft w ft := fun k h => .inl h
theorem Of.trans {ft ft1 ft2 : List Nat} {w w1 : World} (h : Of ft w ft1) (h1 : Of ft1 w1 ft2) (hs : w.heap.size ≤ w1.heap.size) : Of ft w ft2 := fun k hk => by
  rcases h1 k hk with h2 | h2
  · exact h k h2
  · exact .inr (Nat.le_trans hs h2)
theorem Turn.trans {ft ft1 : List Nat} {w w1 w2 : World} (h : Turn ft w w1) (h1 : Turn ft1 w1 w2) (hf : Of ft w ft1) : Turn ft w w2 :=
  ⟨h1.os.trans h.os, h1.tape.trans h.tape, h1.output.trans h.output, Nat.le_trans h.size h1.size, fun k hk hn => by
    rw [h1.block k (Nat.lt_of_lt_of_le hk h.size) (fun e => by
      rcases hf k e with r | r
      · exact hn r
      · omega), h.block k hk hn]⟩
theorem Turn.same {ft : List Nat} {w w1 w2 : World} (h : Turn ft w w1) (h1 : Turn ft w1 w2) : Turn ft w w2 := h.trans h1 (Of.refl _ _)
theorem Turn.of_below {ft : List Nat} {w w' : World} (h : Below w.heap.size w w') : Turn ft w w' := ⟨h.os, h.tape, h.output, h.size, fun k hk _ => h.block k hk⟩
theorem Turn.of_grown {ft : List Nat} {w w' : World} {b : Nat} (h : w.grownBy w' (some b)) (hb : b ∈ ft) : Turn ft w w' :=
  ⟨h.os, h.tape, h.output, h.size, fun k hk hn => h.block k hk (fun e => hn (by cases e; exact hb))⟩
theorem Turn.of_new {ft : List Nat} {w w' : World} {b : Nat} (h : w.grownBy w' (some b)) (hb : w.heap.size ≤ b) : Turn ft w w' :=
  ⟨h.os, h.tape, h.output, h.size, fun k hk hn => h.block k hk (fun e => by cases e; omega)⟩
theorem Turn.alloc {ft : List Nat} {w w' : World} (h : Turn ft w w') (o : Obj) : Turn ft w (w'.alloc o) :=
  h.same (Turn.of_below ((Below.refl _ _).alloc (Nat.le_refl _) o))
theorem Turn.drew {ft : List Nat} {w w' : World} (h : Turn ft w w') : Turn ft w w'.drew := ⟨h.os, h.tape, h.output, h.size, h.block⟩
theorem Turn.below {ft : List Nat} {w w' : World} (h : Turn ft w w') {B : Nat} (hB : B ≤ w.heap.size) (hf : ∀ k ∈ ft, B ≤ k) : Below B w w' :=
  ⟨h.os, h.tape, h.output, h.size, fun k hk => h.block k (by omega) (fun e => by have := hf k e; omega)⟩
theorem Turn.widen {ft ft' : List Nat} {w w' : World} (h : Turn ft w w') (hf : ∀ k ∈ ft, k ∈ ft') : Turn ft' w w' := ⟨h.os, h.tape, h.output, h.size, fun k hk hn => h.block k hk (fun e => hn (hf k e))⟩
def Out (ft : List Nat) (v : Value) : Prop := ∀ k, v.ownBlock = some k → k ∉ ft
theorem Out.of {ft ft1 : List Nat} {w : World} {v : Value} (h : Out ft v) (hf : Of ft w ft1) (hl : ∀ k, v.ownBlock = some k → k < w.heap.size) : Out ft1 v := fun k hk e => by
  rcases hf k e with r | r
  · exact h k hk r
  · have := hl k hk; omega
theorem Rd.turn {ft : List Nat} {w w' : World} {v : Value} {l : List Int} (h : Rd w v l) (ht : Turn ft w w') (ho : Out ft v) : Rd w' v l := by
  obtain ⟨ho', a, cap, rfl, h1, h2, h3, h4⟩ := h
  refine ⟨ho', a, cap, rfl, h1, h2, h3, fun hp => ?_⟩
  obtain ⟨b, off, rfl, hc⟩ := h4 hp
  refine ⟨b, off, rfl, fun j hj => ?_⟩
  rw [World.cell?_of_block (ht.block b (World.block_lt_of_cell? w _ (hc j hj)) (ho b rfl))]
  exact hc j hj
def RdU (w : World) (v : Value) (l : List Int) : Prop :=
  (∀ x ∈ l, U64 x) ∧ ∃ (a : Option Addr) (cap : Nat), v = .slice a l.length cap ∧ l.length ≤ cap ∧ cap ≤ maxLen ∧ (a = none → cap = 0) ∧
    (0 < l.length → ∃ b off, a = some ⟨b, off, none⟩ ∧ ∀ j, j < l.length → w.cell? ⟨b, off + j, none⟩ = some (.int .u64 (l.getD j 0)))
theorem rdU_nil (w : World) : RdU w (.slice none 0 0) [] := ⟨(fun _ h => by cases h), none, 0, rfl, Nat.le_refl _, Nat.zero_le _, fun _ => rfl, fun h => by simp at h⟩
theorem RdU.turn {ft : List Nat} {w w' : World} {v : Value} {l : List Int} (h : RdU w v l) (ht : Turn ft w w') (ho : Out ft v) : RdU w' v l := by
  obtain ⟨ho', a, cap, rfl, h1, h2, h3, h4⟩ := h
  refine ⟨ho', a, cap, rfl, h1, h2, h3, fun hp => ?_⟩
  obtain ⟨b, off, rfl, hc⟩ := h4 hp
  refine ⟨b, off, rfl, fun j hj => ?_⟩
  rw [World.cell?_of_block (ht.block b (World.block_lt_of_cell? w _ (hc j hj)) (ho b rfl))]
  exact hc j hj
theorem RdU.block {w w' : World} {v : Value} {l : List Int} (h : RdU w v l) (hb : ∀ k, v.ownBlock = some k → k < w.heap.size → w'.heap[k]? = w.heap[k]?) : RdU w' v l := by
  obtain ⟨ho', a, cap, rfl, h1, h2, h3, h4⟩ := h
  refine ⟨ho', a, cap, rfl, h1, h2, h3, fun hp => ?_⟩
  obtain ⟨b, off, rfl, hc⟩ := h4 hp
  refine ⟨b, off, rfl, fun j hj => ?_⟩
  rw [World.cell?_of_block (hb b rfl (World.block_lt_of_cell? w _ (hc j hj)))]
  exact hc j hj
theorem rdU_tail {w : World} {a : Option Addr} {cap : Nat} {x : Int} {l : List Int} (h : RdU w (.slice a (l.length + 1) cap) (x :: l)) (hne : ¬ cap = 1) : RdU w (.slice (Option.map (fun y => y.add 1) a) l.length (cap - 1)) l := by
  obtain ⟨ho, a', cap', e, h1, h2, h3, h4⟩ := h
  obtain ⟨rfl, rfl⟩ : a = a' ∧ cap = cap' := by simpa using e
  simp at h1
  refine ⟨fun y hy => ho y (List.mem_cons_of_mem _ hy), _, cap - 1, rfl, by omega, by omega, fun hn => ?_, fun hp => ?_⟩
  · have := h3 (by simpa using hn)
    omega
  · obtain ⟨b, off, rfl, hc⟩ := h4 (by simp)
    refine ⟨b, off + 1, by rw [Option.map_some, Addr.add_lit], fun j hj => ?_⟩
    rw [Nat.add_assoc, Nat.add_comm 1 j, hc (j + 1) (by simpa using hj)]
    simp
theorem rdU_tail0 {w : World} {a : Option Addr} {x : Int} {l : List Int} (h : RdU w (.slice a (l.length + 1) 1) (x :: l)) : RdU w (.slice a l.length 0) l := by
  obtain ⟨ho, a', cap', e, h1, h2, h3, h4⟩ := h
  obtain ⟨rfl, rfl⟩ : a = a' ∧ 1 = cap' := by simpa using e
  simp at h1
  subst h1
  exact ⟨(fun _ h => by cases h), a, 0, rfl, Nat.le_refl _, Nat.zero_le _, fun _ => rfl, fun h => by simp at h⟩
end
section
open Go.RowKit Go.Maps
theorem ownsRow_block {w w' : World} {base : Nat} {e : TypeId} {size : Nat} {v : Value} {n : Nat} {xs : List Value} (h : w.ownsRow base e size v n xs) (hb : ∀ k, v.ownBlock = some k → w'.heap[k]? = w.heap[k]?) : w'.ownsRow base e size v n xs := by
  obtain ⟨h1, h2⟩ := h
  refine ⟨h1, ?_⟩
  rcases h2 with h2 | ⟨g, cap, cur, rfl, h3, h4, h5⟩
  · exact .inl h2
  · exact .inr ⟨g, cap, cur, rfl, h3, by rw [hb g rfl]; exact h4, h5⟩
theorem slice_of_own {w : World} {base : Nat} {e : TypeId} {size : Nat} {v : Value} {n : Nat} {xs : List Value} (h : w.ownsRow base e size v n xs) : ∃ a cap, v = .slice a n cap ∧ n ≤ cap ∧ cap ≤ 9223372036854775807 := by
  rcases h with ⟨h1, ⟨rfl, rfl⟩ | ⟨g, cap, cur, rfl, h3, h4, h5, h6, _⟩⟩
  · exact ⟨none, 0, rfl, Nat.le_refl _, by omega⟩
  · exact ⟨_, cap, rfl, h5, h6⟩
theorem Rd.drew {w : World} {v : Value} {l : List Int} (h : Rd w v l) : Rd w.drew v l := h
theorem Blk.set {w : World} {b : Nat} {e : TypeId} {vs : List Value} (h : Blk w b e vs) (i : Nat) (u : Value) : Blk (w.setCell ⟨b, i, none⟩ u) b e (vs.set i u) := by
  unfold Blk
  rw [heap_setCell_same w b i vs.toArray e u h]
  simp
theorem Blk.drew {w : World} {b : Nat} {e : TypeId} {vs : List Value} (h : Blk w b e vs) : Blk w.drew b e vs := h
theorem Blk.other {w : World} {b c : Nat} {e : TypeId} {vs : List Value} (h : Blk w b e vs) (i : Nat) (u : Value) (hne : b ≠ c) : Blk (w.setCell ⟨c, i, none⟩ u) b e vs :=
  h.block ((grown_setCell w c i u).block b h.lt (fun e => hne (Option.some.inj e)))
end
end
section
section
set_option linter.unusedVariables false
set_option linter.unusedSimpArgs false
set_option synthInstance.maxSize 20000
set_option maxHeartbeats 2000000
set_option maxRecDepth 20000
open Go.RowKit Go.Maps
structure Mv (I : List Nat) (w : World) (o : Nat → Nat) (w' : World) (o' : Nat → Nat) : Prop where
  os : w'.os = w.os
  tape : w'.tape = w.tape
  output : w'.output = w.output
  size : w.heap.size ≤ w'.heap.size
  ext : ∀ k, k < w.heap.size → o' k = o k
  block : ∀ k, k < w.heap.size → o k ∉ I → w'.heap[k]? = w.heap[k]?
def newBy (o : Nat → Nat) (w : World) (f : Nat → Nat) : Nat → Nat := fun k => if k < w.heap.size then o k else f k
theorem newBy_old {o f : Nat → Nat} {w : World} {k : Nat} (h : k < w.heap.size) : newBy o w f k = o k := if_pos h
theorem newBy_new {o f : Nat → Nat} {w : World} {k : Nat} (h : w.heap.size ≤ k) : newBy o w f k = f k := if_neg (by omega)
def newTo (o : Nat → Nat) (w : World) (j : Nat) : Nat → Nat := fun k => if k < w.heap.size then o k else j
theorem newTo_old {o : Nat → Nat} {w : World} {j k : Nat} (h : k < w.heap.size) : newTo o w j k = o k := if_pos h
theorem newTo_new {o : Nat → Nat} {w : World} {j k : Nat} (h : w.heap.size ≤ k) : newTo o w j k = j := if_neg (by omega)
theorem Mv.refl (I : List Nat) (w : World) (o : Nat → Nat) : Mv I w o w o := ⟨rfl, rfl, rfl, Nat.le_refl _, fun _ _ => rfl, fun _ _ _ => rfl⟩
theorem Mv.trans {I : List Nat} {w w1 w2 : World} {o o1 o2 : Nat → Nat} (h : Mv I w o w1 o1) (h1 : Mv I w1 o1 w2 o2) : Mv I w o w2 o2 :=
  ⟨h1.os.trans h.os, h1.tape.trans h.tape, h1.output.trans h.output, Nat.le_trans h.size h1.size, fun k hk => (h1.ext k (Nat.lt_of_lt_of_le hk h.size)).trans (h.ext k hk),
    fun k hk hn => (h1.block k (Nat.lt_of_lt_of_le hk h.size) (by rw [h.ext k hk]; exact hn)).trans (h.block k hk hn)⟩
theorem Mv.widen {I J : List Nat} {w w' : World} {o o' : Nat → Nat} (h : Mv I w o w' o') (hIJ : ∀ i ∈ I, i ∈ J) : Mv J w o w' o' := ⟨h.os, h.tape, h.output, h.size, h.ext, fun k hk hn => h.block k hk (fun e => hn (hIJ _ e))⟩
theorem Mv.of_turn' {I ft : List Nat} {w w' : World} {o : Nat → Nat} (f : Nat → Nat) (h : Turn ft w w') (hf : ∀ k ∈ ft, k < w.heap.size → o k ∈ I) : Mv I w o w' (newBy o w f) :=
  ⟨h.os, h.tape, h.output, h.size, fun k hk => newBy_old hk, fun k hk hn => h.block k hk (fun e => hn (hf k e hk))⟩
theorem Mv.of_turn {I ft : List Nat} {w w' : World} {o : Nat → Nat} (j : Nat) (h : Turn ft w w') (hf : ∀ k ∈ ft, k < w.heap.size → o k ∈ I) : Mv I w o w' (newTo o w j) :=
  ⟨h.os, h.tape, h.output, h.size, fun k hk => newTo_old hk, fun k hk hn => h.block k hk (fun e => hn (hf k e hk))⟩
theorem Mv.of_below {I : List Nat} {w w' : World} {o : Nat → Nat} (j : Nat) (h : Below w.heap.size w w') : Mv I w o w' (newTo o w j) := Mv.of_turn (ft := []) j (Turn.of_below h) (fun k hk => by cases hk)
theorem Mv.below {I : List Nat} {w w' : World} {o o' : Nat → Nat} {B : Nat} (h : Mv I w o w' o') (hB : B ≤ w.heap.size) (hI : ∀ k, k < B → o k ∉ I) : Below B w w' :=
  ⟨h.os, h.tape, h.output, h.size, fun k hk => h.block k (by omega) (hI k hk)⟩
def wr (I : List Nat) (w : World) (o : Nat → Nat) : List Nat := (List.range w.heap.size).filter (fun k => decide (o k ∈ I))
theorem mem_wr {I : List Nat} {w : World} {o : Nat → Nat} {k : Nat} (h : k ∈ wr I w o) : k < w.heap.size ∧ o k ∈ I := by
  unfold wr at h
  rw [List.mem_filter, List.mem_range] at h
  exact ⟨h.1, of_decide_eq_true h.2⟩
theorem Mv.turn {I : List Nat} {w w' : World} {o o' : Nat → Nat} (h : Mv I w o w' o') : Turn (wr I w o) w w' :=
  ⟨h.os, h.tape, h.output, h.size, fun k hk hn => h.block k hk (fun e => hn (by unfold wr; rw [List.mem_filter, List.mem_range]; exact ⟨hk, decide_eq_true e⟩))⟩
def Kp0 (w : World) (o : Nat → Nat) (v : Value) (l : List Int) : Prop := Rd w v l ∧ (l ≠ [] → ∀ k, v.ownBlock = some k → o k = 0)
theorem kp0_nil (w : World) (o : Nat → Nat) : Kp0 w o (.slice none 0 0) [] := ⟨rd_nil w, fun h => absurd rfl h⟩
theorem Rd.blockLt {w : World} {v : Value} {l : List Int} (h : Rd w v l) (hl : l ≠ []) : ∀ k, v.ownBlock = some k → k < w.heap.size := by
  obtain ⟨ho', a, cap, rfl, h1, h2, h3, h4⟩ := h
  have hp : 0 < l.length := by cases l with
    | nil => exact absurd rfl hl
    | cons x l => simp
  obtain ⟨b, off, rfl, hc⟩ := h4 hp
  intro k hk
  have h9 : b < w.heap.size := World.block_lt_of_cell? w _ (hc 0 hp)
  simp [Value.ownBlock] at hk
  omega
theorem Rd.blocks {w w' : World} {v : Value} {l : List Int} (h : Rd w v l) (hb : l ≠ [] → ∀ k, v.ownBlock = some k → k < w.heap.size → w'.heap[k]? = w.heap[k]?) : Rd w' v l := by
  have hlt := h.blockLt
  obtain ⟨ho', a, cap, rfl, h1, h2, h3, h4⟩ := h
  refine ⟨ho', a, cap, rfl, h1, h2, h3, fun hp => ?_⟩
  have hl : l ≠ [] := fun e => by subst e; simp at hp
  obtain ⟨b, off, rfl, hc⟩ := h4 hp
  refine ⟨b, off, rfl, fun j hj => ?_⟩
  rw [World.cell?_of_block (hb hl b rfl (hlt hl b rfl))]
  exact hc j hj
theorem Kp0.mv {I : List Nat} {w w' : World} {o o' : Nat → Nat} {v : Value} {l : List Int} (h : Kp0 w o v l) (m : Mv I w o w' o') (h0 : 0 ∉ I) : Kp0 w' o' v l := by
  refine ⟨h.1.blocks (fun hl k hk hlt => m.block k hlt (by rw [h.2 hl k hk]; exact h0)), fun hl k hk => ?_⟩
  rw [m.ext k (h.1.blockLt hl k hk)]
  exact h.2 hl k hk
theorem Kp0.of_new {w w1 w' : World} {o : Nat → Nat} {v : Value} {l : List Int} {B : Nat} (ho : Own B 5 w' v l) (hB : w.heap.size ≤ B) : Kp0 w' (newTo o w 0) v l :=
  ⟨ho.rd, fun _ k hk => newTo_new (Nat.le_trans hB (ho.2.lt k hk).1)⟩
theorem run_append_where {P : Program} (w : World) (base : Nat) (t ty e : TypeId) (i : TypeInfo) (z : Value) (size bytes : Nat) (ht : P.underlying t = some (.slice e)) (hi : P.info? e = some i) (hz : i.zero = some z)
    (hsize : i.size = size) (hby : i.bytes = bytes) (hzs : z.cells.size = size) (hsz : 0 < size)
    (v : Value) (n : Nat) (xs : List Value) (hown : w.ownsRow base e size v n xs)
    (a : Addr) (m c : Nat) (news : List Value) (hl : news.length = m * size) (hnews : ∀ j u, news[j]? = some u → w.cell? (a.add j) = some u) (h1 : ∀ u ∈ news, u.oneCell' = true)
    (h63 : n + m ≤ maxLen) (hbytes : (n + m) * bytes ≤ 140737488355328) (hbase : base ≤ w.heap.size) :
    ∃ v' w', (Builtin.append_ #[t, t] ty #[v, .slice (some a) m c]).run P w = .ok v' w' ∧ w'.ownsRow base e size v' (n + m) (xs ++ news) ∧ w.grownBy w' v.ownBlock ∧ (∀ k, v'.ownBlock = some k → v.ownBlock = some k ∨ w.heap.size ≤ k) := by
  obtain ⟨v', w', hr, h2, h3, h4⟩ := run_append_own (P := P) w base t ty e i z size bytes ht hi hz hsize hby hzs hsz v n xs hown a m c news hl hnews h1 h63 hbytes hbase
  refine ⟨v', w', hr, h2, h3, ?_⟩
  subst hsize
  subst hby
  have hsmall : n + m ≤ 9223372036854775807 := by simp only [maxLen] at h63; omega
  rcases hown.2 with ⟨rfl, rfl⟩ | ⟨g, cap, cur, rfl, hbg, hg, hnc, hcm, hcs, htake⟩
  · by_cases hm : m = 0
    · have := h4.2 ⟨rfl, hm⟩
      subst this
      intro k hk
      simp [Value.ownBlock] at hk
    · have hr2 := run_append_nil (P := P) w t ty e i z ht hi hz a m c news hl hnews (by omega) (by omega) (by have hb := hbytes; simp only [Nat.zero_add] at hb; omega)
      rw [hr] at hr2
      cases hr2
      intro k hk
      simp [Value.ownBlock] at hk
      exact .inr (by omega)
  · by_cases hroom : n + m ≤ cap
    · have hfit : n * i.size + news.length ≤ cur.size := by rw [hl, hcs, ← Nat.add_mul]; exact Nat.mul_le_mul_right _ hroom
      have hr2 := run_append_room (P := P) w t ty e i ht hi g n cap cur hg a m c news hl hnews h1 hroom hfit
      rw [hr] at hr2
      cases hr2
      intro k hk
      exact .inl hk
    · have holds : ∀ j u, xs[j]? = some u → w.cell? ((⟨g, 0, none⟩ : Addr).add j) = some u := hown.cells (g := g) rfl
      have hr2 := run_append_grow (P := P) w t ty e i z ht hi hz ⟨g, 0, none⟩ n cap xs hown.1 holds a m c news hl hnews (by omega) (by omega) (growslice_fits (by omega) hbytes)
      rw [hr] at hr2
      cases hr2
      intro k hk
      simp [Value.ownBlock] at hk
      exact .inr (by omega)
theorem Blk.past {w w' : World} {b c : Nat} {e : TypeId} {vs : List Value} (h : Blk w b e vs) (hg : w.grownBy w' (some c)) (hne : b ≠ c) : Blk w' b e vs := h.block (hg.block b h.lt (fun e => hne (Option.some.inj e)))
theorem Blk.past' {w w' : World} {b : Nat} {e : TypeId} {vs : List Value} {r : Option Nat} (h : Blk w b e vs) (hg : w.grownBy w' r) (hne : r ≠ some b) : Blk w' b e vs := h.block (hg.block b h.lt (fun e => hne e.symm))
theorem turn_grown {w w' : World} {r : Option Nat} (h : w.grownBy w' r) : Turn r.toList w w' := ⟨h.os, h.tape, h.output, h.size, fun k hk hn => h.block k hk (fun e => hn (by rw [← e]; simp))⟩
theorem fresh_owner (w : World) (o : Nat → Nat) (j : Nat) : ∃ c, 1 < c ∧ j < c ∧ ∀ k, k < w.heap.size → o k ≠ c := by
  have key : ∀ n : Nat, ∃ c, 1 < c ∧ j < c ∧ ∀ k, k < n → o k < c := by
    intro n
    induction n with
    | zero => exact ⟨j + 2, by omega, by omega, fun k hk => by omega⟩
    | succ n ih =>
      obtain ⟨c, h1, h2, h3⟩ := ih
      refine ⟨max c (o n + 1), by omega, by omega, fun k hk => ?_⟩
      by_cases e : k = n
      · subst e; omega
      · have := h3 k (by omega); omega
  obtain ⟨c, h1, h2, h3⟩ := key w.heap.size
  exact ⟨c, h1, h2, fun k hk e => by have := h3 k hk; omega⟩
theorem Mv.restrict {I : List Nat} {c : Nat} {w w' : World} {o o' : Nat → Nat} (h : Mv (c :: I) w o w' o') (hc : ∀ k, k < w.heap.size → o k ≠ c) : Mv I w o w' o' :=
  ⟨h.os, h.tape, h.output, h.size, h.ext, fun k hk hn => h.block k hk (fun e => by
    rcases List.mem_cons.1 e with r | r
    · exact hc k hk r
    · exact hn r)⟩
end
end
end Go.Proofs.YtjbpfhnagiacmaaGreat
