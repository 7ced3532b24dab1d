/-
  Owners of blocks: who may write which block; what a step turns (Mv); bytes that stay (Kp0). Rows of entries in memory; append of entries; make of entries.
-/
import Derived.Test.YtigfklcclfpcjaaTurn
import Derived.Test.YtigfklcclfpcjaaEnt
import Derived.Test.YtigfklcclfpcjaaSameE
import Derived.WalkSmall
import Derived.Laws.OwnMore
import Derived.Laws.MakeOwn
namespace Go.Proofs.Ytigfklcclfpcjaa
section
set_option linter.unusedVariables false
set_option linter.unusedSimpArgs false
set_option synthInstance.maxSize 20000
open Go.RowKit Go.Maps

/-- From w to w' only blocks of the owners I were written; new blocks have owners, too. Owner 0: what stays. -/
structure Mv (I : List Nat) (w : World) (o : Nat → Nat) (w' : World) (o' : Nat → Nat) : Prop where
  os : w'.os = w.os
  tape : w'.tape = w.tape
  output : w'.output = w.output
  size : w.heap.size ≤ w'.heap.size
  ext : ∀ k, k < w.heap.size → o' k = o k
  block : ∀ k, k < w.heap.size → o k ∉ I → w'.heap[k]? = w.heap[k]?

/-- New blocks have the owners that f tells. -/
def newBy (o : Nat → Nat) (w : World) (f : Nat → Nat) : Nat → Nat := fun k => if k < w.heap.size then o k else f k
theorem newBy_old {o f : Nat → Nat} {w : World} {k : Nat} (h : k < w.heap.size) : newBy o w f k = o k := if_pos h
theorem newBy_new {o f : Nat → Nat} {w : World} {k : Nat} (h : w.heap.size ≤ k) : newBy o w f k = f k := if_neg (by omega)
/-- New blocks are j's. -/
def newTo (o : Nat → Nat) (w : World) (j : Nat) : Nat → Nat := fun k => if k < w.heap.size then o k else j
theorem newTo_old {o : Nat → Nat} {w : World} {j k : Nat} (h : k < w.heap.size) : newTo o w j k = o k := if_pos h
theorem newTo_new {o : Nat → Nat} {w : World} {j k : Nat} (h : w.heap.size ≤ k) : newTo o w j k = j := if_neg (by omega)

theorem Mv.refl (I : List Nat) (w : World) (o : Nat → Nat) : Mv I w o w o := ⟨rfl, rfl, rfl, Nat.le_refl _, fun _ _ => rfl, fun _ _ _ => rfl⟩
theorem Mv.trans {I : List Nat} {w w1 w2 : World} {o o1 o2 : Nat → Nat} (h : Mv I w o w1 o1) (h1 : Mv I w1 o1 w2 o2) : Mv I w o w2 o2 :=
  ⟨h1.os.trans h.os, h1.tape.trans h.tape, h1.output.trans h.output, Nat.le_trans h.size h1.size, fun k hk => (h1.ext k (Nat.lt_of_lt_of_le hk h.size)).trans (h.ext k hk),
    fun k hk hn => (h1.block k (Nat.lt_of_lt_of_le hk h.size) (by rw [h.ext k hk]; exact hn)).trans (h.block k hk hn)⟩
theorem Mv.widen {I J : List Nat} {w w' : World} {o o' : Nat → Nat} (h : Mv I w o w' o') (hIJ : ∀ i ∈ I, i ∈ J) : Mv J w o w' o' := ⟨h.os, h.tape, h.output, h.size, h.ext, fun k hk hn => h.block k hk (fun e => hn (hIJ _ e))⟩
theorem Mv.of_turn' {I ft : List Nat} {w w' : World} {o : Nat → Nat} (f : Nat → Nat) (h : Turn ft w w') (hf : ∀ k ∈ ft, k < w.heap.size → o k ∈ I) : Mv I w o w' (newBy o w f) :=
  ⟨h.os, h.tape, h.output, h.size, fun k hk => newBy_old hk, fun k hk hn => h.block k hk (fun e => hn (hf k e hk))⟩
theorem Mv.of_turn {I ft : List Nat} {w w' : World} {o : Nat → Nat} (j : Nat) (h : Turn ft w w') (hf : ∀ k ∈ ft, k < w.heap.size → o k ∈ I) : Mv I w o w' (newTo o w j) :=
  ⟨h.os, h.tape, h.output, h.size, fun k hk => newTo_old hk, fun k hk hn => h.block k hk (fun e => hn (hf k e hk))⟩
theorem Mv.of_below {I : List Nat} {w w' : World} {o : Nat → Nat} (j : Nat) (h : Below w.heap.size w w') : Mv I w o w' (newTo o w j) := Mv.of_turn (ft := []) j (Turn.of_below h) (fun k hk => by cases hk)
theorem Mv.below {I : List Nat} {w w' : World} {o o' : Nat → Nat} {B : Nat} (h : Mv I w o w' o') (hB : B ≤ w.heap.size) (hI : ∀ k, k < B → o k ∉ I) : Below B w w' :=
  ⟨h.os, h.tape, h.output, h.size, fun k hk => h.block k (by omega) (hI k hk)⟩

/-- The blocks that may have been written. -/
def wr (I : List Nat) (w : World) (o : Nat → Nat) : List Nat := (List.range w.heap.size).filter (fun k => decide (o k ∈ I))
theorem mem_wr {I : List Nat} {w : World} {o : Nat → Nat} {k : Nat} (h : k ∈ wr I w o) : k < w.heap.size ∧ o k ∈ I := by
  unfold wr at h
  rw [List.mem_filter, List.mem_range] at h
  exact ⟨h.1, of_decide_eq_true h.2⟩
theorem Mv.turn {I : List Nat} {w w' : World} {o o' : Nat → Nat} (h : Mv I w o w' o') : Turn (wr I w o) w w' :=
  ⟨h.os, h.tape, h.output, h.size, fun k hk hn => h.block k hk (fun e => hn (by unfold wr; rw [List.mem_filter, List.mem_range]; exact ⟨hk, decide_eq_true e⟩))⟩

/-- Bytes that are read, and stay. -/
def Kp0 (w : World) (o : Nat → Nat) (v : Value) (l : List Int) : Prop := Rd w v l ∧ (l ≠ [] → ∀ k, v.ownBlock = some k → o k = 0)
theorem kp0_nil (w : World) (o : Nat → Nat) : Kp0 w o (.slice none 0 0) [] := ⟨rd_nil w, fun h => absurd rfl h⟩
theorem Rd.blockLt {w : World} {v : Value} {l : List Int} (h : Rd w v l) (hl : l ≠ []) : ∀ k, v.ownBlock = some k → k < w.heap.size := by
  obtain ⟨ho', a, cap, rfl, h1, h2, h3, h4⟩ := h
  have hp : 0 < l.length := by cases l with
    | nil => exact absurd rfl hl
    | cons x l => simp
  obtain ⟨b, off, rfl, hc⟩ := h4 hp
  intro k hk
  have h9 : b < w.heap.size := World.block_lt_of_cell? w _ (hc 0 hp)
  simp [Value.ownBlock] at hk
  omega
theorem Rd.blocks {w w' : World} {v : Value} {l : List Int} (h : Rd w v l) (hb : l ≠ [] → ∀ k, v.ownBlock = some k → k < w.heap.size → w'.heap[k]? = w.heap[k]?) : Rd w' v l := by
  have hlt := h.blockLt
  obtain ⟨ho', a, cap, rfl, h1, h2, h3, h4⟩ := h
  refine ⟨ho', a, cap, rfl, h1, h2, h3, fun hp => ?_⟩
  have hl : l ≠ [] := fun e => by subst e; simp at hp
  obtain ⟨b, off, rfl, hc⟩ := h4 hp
  refine ⟨b, off, rfl, fun j hj => ?_⟩
  rw [World.cell?_of_block (hb hl b rfl (hlt hl b rfl))]
  exact hc j hj
theorem Kp0.mv {I : List Nat} {w w' : World} {o o' : Nat → Nat} {v : Value} {l : List Int} (h : Kp0 w o v l) (m : Mv I w o w' o') (h0 : 0 ∉ I) : Kp0 w' o' v l := by
  refine ⟨h.1.blocks (fun hl k hk hlt => m.block k hlt (by rw [h.2 hl k hk]; exact h0)), fun hl k hk => ?_⟩
  rw [m.ext k (h.1.blockLt hl k hk)]
  exact h.2 hl k hk
/-- New bytes. -/
theorem Kp0.of_new {w w1 w' : World} {o : Nat → Nat} {v : Value} {l : List Int} {B : Nat} (ho : Own B 5 w' v l) (hB : w.heap.size ≤ B) : Kp0 w' (newTo o w 0) v l :=
  ⟨ho.rd, fun _ k hk => newTo_new (Nat.le_trans hB (ho.2.lt k hk).1)⟩

end

section
set_option linter.unusedVariables false
set_option linter.unusedSimpArgs false
set_option synthInstance.maxSize 20000
open Go.RowKit Go.Maps

theorem ownsRow_block {w w' : World} {base : Nat} {e : TypeId} {size : Nat} {v : Value} {n : Nat} {xs : List Value} (h : w.ownsRow base e size v n xs) (hb : ∀ k, v.ownBlock = some k → w'.heap[k]? = w.heap[k]?) : w'.ownsRow base e size v n xs := by
  obtain ⟨h1, h2⟩ := h
  refine ⟨h1, ?_⟩
  rcases h2 with h2 | ⟨g, cap, cur, rfl, h3, h4, h5⟩
  · exact .inl h2
  · exact .inr ⟨g, cap, cur, rfl, h3, by rw [hb g rfl]; exact h4, h5⟩
theorem slice_of_own {w : World} {base : Nat} {e : TypeId} {size : Nat} {v : Value} {n : Nat} {xs : List Value} (h : w.ownsRow base e size v n xs) : ∃ a cap, v = .slice a n cap ∧ n ≤ cap ∧ cap ≤ 9223372036854775807 := by
  rcases h with ⟨h1, ⟨rfl, rfl⟩ | ⟨g, cap, cur, rfl, h3, h4, h5, h6, _⟩⟩
  · exact ⟨none, 0, rfl, Nat.le_refl _, by omega⟩
  · exact ⟨_, cap, rfl, h5, h6⟩
theorem Rd.drew {w : World} {v : Value} {l : List Int} (h : Rd w v l) : Rd w.drew v l := h

/-- Entries with their bodies' values, as cells. -/
def flatE (ps : List (Ent × Value)) : List Value := ps.flatMap (fun q => ec q.1 q.2)
theorem flatE_length (ps : List (Ent × Value)) : (flatE ps).length = ps.length * 8 := by
  induction ps with
  | nil => rfl
  | cons q ps ih =>
    unfold flatE at *
    rw [List.flatMap_cons, List.length_append, ih, List.length_cons]
    show 8 + _ = _
    omega
theorem flatE_append (a b : List (Ent × Value)) : flatE (a ++ b) = flatE a ++ flatE b := by simp [flatE]
theorem flatE_take (ps : List (Ent × Value)) (n : Nat) : (flatE ps).take (n * 8) = flatE (ps.take n) := by
  induction ps generalizing n with
  | nil => simp [flatE]
  | cons q ps ih =>
    cases n with
    | zero => simp [flatE]
    | succ n =>
      have := ih n
      unfold flatE at *
      rw [List.flatMap_cons, List.take_succ_cons, List.flatMap_cons, ← this, List.take_append, List.take_of_length_le (by show 8 ≤ _; omega)]
      congr 2
      show (n + 1) * 8 - 8 = _
      omega
theorem flatE_drop (ps : List (Ent × Value)) (n : Nat) : (flatE ps).drop (n * 8) = flatE (ps.drop n) := by
  induction ps generalizing n with
  | nil => simp [flatE]
  | cons q ps ih =>
    cases n with
    | zero => simp [flatE]
    | succ n =>
      have := ih n
      unfold flatE at *
      rw [List.flatMap_cons, List.drop_succ_cons, ← this, List.drop_append, List.drop_of_length_le (by show 8 ≤ _; omega), List.nil_append]
      congr 1
      show (n + 1) * 8 - 8 = _
      omega
theorem flatE_at {ps : List (Ent × Value)} {i : Nat} {q : Ent × Value} (h : ps[i]? = some q) (j : Nat) (u : Value) (hj : (ec q.1 q.2)[j]? = some u) : (flatE ps)[i * 8 + j]? = some u := by
  induction ps generalizing i with
  | nil => simp at h
  | cons p ps ih =>
    have hj8 : j < 8 := (List.getElem?_eq_some_iff.1 hj).1
    unfold flatE
    rw [List.flatMap_cons]
    cases i with
    | zero =>
      simp at h
      subst h
      rw [List.getElem?_append_left (by show _ < 8; omega), Nat.zero_mul, Nat.zero_add]
      exact hj
    | succ i =>
      rw [List.getElem?_append_right (by show 8 ≤ _; omega)]
      have := ih (by simpa using h)
      unfold flatE at this
      rw [show (i + 1) * 8 + j - (ec p.1 p.2).length = i * 8 + j from by show (i + 1) * 8 + j - 8 = _; omega]
      exact this
theorem slice_one {w : World} {x : Value} {l : List Int} (h : Rd w x l) : x.oneCell' = true := by
  obtain ⟨a, c, rfl⟩ := h.len
  rfl
theorem flatE_one {ps : List (Ent × Value)} (h : ∀ q ∈ ps, q.2.oneCell' = true) : ∀ u ∈ flatE ps, u.oneCell' = true := fun u hu => by
  unfold flatE at hu
  rw [List.mem_flatMap] at hu
  obtain ⟨q, hq, hu⟩ := hu
  unfold ec at hu
  simp at hu
  rcases hu with rfl | rfl | rfl | rfl | rfl | rfl | rfl | rfl <;> first | rfl | exact h q hq

/-- Entries whose bodies are read, and stay. -/
def Ents (w : World) (o : Nat → Nat) (ps : List (Ent × Value)) : Prop := ∀ q ∈ ps, EOk q.1 ∧ Kp0 w o q.2 q.1.b
theorem Ents.mv {I : List Nat} {w w' : World} {o o' : Nat → Nat} {ps : List (Ent × Value)} (h : Ents w o ps) (m : Mv I w o w' o') (h0 : 0 ∉ I) : Ents w' o' ps := fun q hq => ⟨(h q hq).1, (h q hq).2.mv m h0⟩
theorem Ents.one {w : World} {o : Nat → Nat} {ps : List (Ent × Value)} (h : Ents w o ps) : ∀ u ∈ flatE ps, u.oneCell' = true := flatE_one fun q hq => slice_one (h q hq).2.1
theorem Ents.nil (w : World) (o : Nat → Nat) : Ents w o [] := fun q hq => by cases hq
theorem Ents.append {w : World} {o : Nat → Nat} {a b : List (Ent × Value)} (h : Ents w o a) (k : Ents w o b) : Ents w o (a ++ b) := fun q hq => by
  rcases List.mem_append.1 hq with r | r
  · exact h q r
  · exact k q r
theorem Ents.take {w : World} {o : Nat → Nat} {a : List (Ent × Value)} (h : Ents w o a) (n : Nat) : Ents w o (a.take n) := fun q hq => h q (List.mem_of_mem_take hq)
theorem Ents.drop {w : World} {o : Nat → Nat} {a : List (Ent × Value)} (h : Ents w o a) (n : Nat) : Ents w o (a.drop n) := fun q hq => h q (List.mem_of_mem_drop hq)
theorem ents_one {w : World} {o : Nat → Nat} {e : Ent} {x : Value} (he : EOk e) (hx : Kp0 w o x e.b) : Ents w o [(e, x)] := fun q hq => by
  simp at hq
  subst hq
  exact ⟨he, hx⟩

/-- A slice value that shows entries, wherever they lie. -/
def RowE (w : World) (v : Value) (ps : List (Ent × Value)) : Prop :=
  ∃ (a : Option Addr) (cap : Nat), v = .slice a ps.length cap ∧ ps.length ≤ cap ∧ cap ≤ maxLen ∧ (a = none → cap = 0) ∧
    (0 < ps.length → ∃ b off, a = some ⟨b, off, none⟩ ∧ ∀ j u, (flatE ps)[j]? = some u → w.cell? ⟨b, off + j, none⟩ = some u)
theorem RowE.len {w : World} {v : Value} {ps : List (Ent × Value)} (h : RowE w v ps) : ∃ a cap, v = .slice a ps.length cap := ⟨h.choose, h.choose_spec.choose, h.choose_spec.choose_spec.1⟩
theorem rowE_nil (w : World) : RowE w (.slice none 0 0) [] := ⟨none, 0, rfl, Nat.le_refl _, Nat.zero_le _, fun _ => rfl, fun h => by simp at h⟩
theorem RowE.blocks {w w' : World} {v : Value} {ps : List (Ent × Value)} (h : RowE w v ps) (hb : ∀ k, v.ownBlock = some k → k < w.heap.size → w'.heap[k]? = w.heap[k]?) : RowE w' v ps := by
  obtain ⟨a, cap, rfl, h1, h2, h3, h4⟩ := h
  refine ⟨a, cap, rfl, h1, h2, h3, fun hp => ?_⟩
  obtain ⟨b, off, rfl, hc⟩ := h4 hp
  refine ⟨b, off, rfl, fun j u hj => ?_⟩
  have := hc j u hj
  rw [World.cell?_of_block (hb b rfl (World.block_lt_of_cell? w _ this))]
  exact this
theorem RowE.below {w w' : World} {v : Value} {ps : List (Ent × Value)} (h : RowE w v ps) (hb : Below w.heap.size w w') : RowE w' v ps := h.blocks fun k _ hk => hb.block k hk
theorem RowE.blockLt {w : World} {v : Value} {ps : List (Ent × Value)} (h : RowE w v ps) (hl : ps ≠ []) : ∀ k, v.ownBlock = some k → k < w.heap.size := by
  obtain ⟨a, cap, rfl, h1, h2, h3, h4⟩ := h
  cases ps with
  | nil => exact absurd rfl hl
  | cons q ps =>
    obtain ⟨b, off, rfl, hc⟩ := h4 (by simp)
    intro k hk
    have h9 : b < w.heap.size := World.block_lt_of_cell? w _ (hc 0 _ (flatE_at (i := 0) (q := q) rfl 0 _ rfl))
    simp [Value.ownBlock] at hk
    omega
theorem RowE.mv {I : List Nat} {w w' : World} {o o' : Nat → Nat} {v : Value} {ps : List (Ent × Value)} (h : RowE w v ps) (m : Mv I w o w' o') (hi : ∀ k, v.ownBlock = some k → o k ∉ I) : RowE w' v ps := h.blocks fun k hk hlt => m.block k hlt (hi k hk)
/-- The cells of one of them. -/
theorem RowE.at {w : World} {a : Option Addr} {n cap : Nat} {ps : List (Ent × Value)} (h : RowE w (.slice a n cap) ps) {i : Nat} {q : Ent × Value} (hi : ps[i]? = some q) :
    ∃ b off, a = some ⟨b, off, none⟩ ∧ ∀ j u, (ec q.1 q.2)[j]? = some u → w.cell? ⟨b, off + i * 8 + j, none⟩ = some u := by
  obtain ⟨a', cap', e, h1, h2, h3, h4⟩ := h
  obtain ⟨rfl, _, _⟩ : a = a' ∧ n = ps.length ∧ cap = cap' := by simpa using e
  have hlt : i < ps.length := (List.getElem?_eq_some_iff.1 hi).1
  obtain ⟨b, off, rfl, hc⟩ := h4 (by omega)
  refine ⟨b, off, rfl, fun j u hj => ?_⟩
  have := hc _ _ (flatE_at hi j u hj)
  rwa [← Nat.add_assoc] at this
theorem RowE.cap {w : World} {a : Option Addr} {n cap : Nat} {ps : List (Ent × Value)} (h : RowE w (.slice a n cap) ps) : n = ps.length ∧ n ≤ cap ∧ cap ≤ 9223372036854775807 := by
  obtain ⟨a', cap', e, h1, h2, h3, h4⟩ := h
  obtain ⟨rfl, rfl, rfl⟩ : a = a' ∧ n = ps.length ∧ cap = cap' := by simpa using e
  exact ⟨rfl, h1, by unfold maxLen at h2; omega⟩
theorem rowE_own {w : World} {B : Nat} {v : Value} {ps : List (Ent × Value)} (h : w.ownsRow B 38 8 v ps.length (flatE ps)) : RowE w v ps := by
  have h' := h
  obtain ⟨h1, h2⟩ := h
  rcases h2 with ⟨rfl, hn⟩ | ⟨g, cap, cur, rfl, hb, hg, hn, hc, hs, ht⟩
  · have : ps = [] := List.eq_nil_of_length_eq_zero hn
    subst this
    exact rowE_nil w
  · refine ⟨some ⟨g, 0, none⟩, cap, rfl, hn, hc, (fun h => by cases h), fun _ => ⟨g, 0, rfl, fun j u hj => ?_⟩⟩
    have := h'.cells (g := g) rfl j u hj
    rw [Addr.add_lit] at this
    exact this

end

section
set_option linter.unusedVariables false
set_option linter.unusedSimpArgs false
set_option synthInstance.maxSize 20000
set_option maxHeartbeats 2000000
set_option maxRecDepth 20000
open Go.RowKit Go.Maps

theorem own_past {B : Nat} {e : TypeId} {w w' : World} {v : Value} {l : List Int} {c : Nat} (h : Own B e w v l) (hc : c < B) (hg : w.grownBy w' (some c)) : Own B e w' v l :=
  ⟨h.1, ownsRow_block h.2 (fun k hk => hg.block k (h.2.lt k hk).2 (fun e => by have := (h.2.lt k hk).1; have := Option.some.inj e; omega))⟩

end

section
set_option linter.unusedVariables false
set_option linter.unusedSimpArgs false
set_option synthInstance.maxSize 20000
set_option maxHeartbeats 2000000
set_option maxRecDepth 20000
open Go.RowKit Go.Maps

theorem infoE : ∃ i, Try.prog.info? 38 = some i ∧ i.zero = some (.agg #[.int .i64 0, .int .i64 0, .int .u64 0, .int .i64 0, .int .i64 0, .int .i64 0, .slice none 0 0, .int .u64 0]) ∧ i.size = 8 ∧ i.bytes = 80 := by
  have h : (Try.prog.info? 38).map (fun i => (i.zero, i.size, i.bytes)) = some (some (.agg #[.int .i64 0, .int .i64 0, .int .u64 0, .int .i64 0, .int .i64 0, .int .i64 0, .slice none 0 0, .int .u64 0]), 8, 80) := by kernel_rfl
  obtain ⟨i, hi, h1, h2, h3⟩ := info_parts h
  exact ⟨i, hi, h1, h2, h3⟩

theorem run_append_where {P : Program} (w : World) (base : Nat) (t ty e : TypeId) (i : TypeInfo) (z : Value) (size bytes : Nat) (ht : P.underlying t = some (.slice e)) (hi : P.info? e = some i) (hz : i.zero = some z)
    (hsize : i.size = size) (hby : i.bytes = bytes) (hzs : z.cells.size = size) (hsz : 0 < size)
    (v : Value) (n : Nat) (xs : List Value) (hown : w.ownsRow base e size v n xs)
    (a : Addr) (m c : Nat) (news : List Value) (hl : news.length = m * size) (hnews : ∀ j u, news[j]? = some u → w.cell? (a.add j) = some u) (h1 : ∀ u ∈ news, u.oneCell' = true)
    (h63 : n + m ≤ maxLen) (hbytes : (n + m) * bytes ≤ 140737488355328) (hbase : base ≤ w.heap.size) :
    ∃ v' w', (Builtin.append_ #[t, t] ty #[v, .slice (some a) m c]).run P w = .ok v' w' ∧ w'.ownsRow base e size v' (n + m) (xs ++ news) ∧ w.grownBy w' v.ownBlock ∧ (∀ k, v'.ownBlock = some k → v.ownBlock = some k ∨ w.heap.size ≤ k) := by
  obtain ⟨v', w', hr, h2, h3, h4⟩ := run_append_own (P := P) w base t ty e i z size bytes ht hi hz hsize hby hzs hsz v n xs hown a m c news hl hnews h1 h63 hbytes hbase
  refine ⟨v', w', hr, h2, h3, ?_⟩
  subst hsize
  subst hby
  have hsmall : n + m ≤ 9223372036854775807 := by simp only [maxLen] at h63; omega
  rcases hown.2 with ⟨rfl, rfl⟩ | ⟨g, cap, cur, rfl, hbg, hg, hnc, hcm, hcs, htake⟩
  · by_cases hm : m = 0
    · have := h4.2 ⟨rfl, hm⟩
      subst this
      intro k hk
      simp [Value.ownBlock] at hk
    · have hr2 := run_append_nil (P := P) w t ty e i z ht hi hz a m c news hl hnews (by omega) (by omega) (by have hb := hbytes; simp only [Nat.zero_add] at hb; omega)
      rw [hr] at hr2
      cases hr2
      intro k hk
      simp [Value.ownBlock] at hk
      exact .inr (by omega)
  · by_cases hroom : n + m ≤ cap
    · have hfit : n * i.size + news.length ≤ cur.size := by rw [hl, hcs, ← Nat.add_mul]; exact Nat.mul_le_mul_right _ hroom
      have hr2 := run_append_room (P := P) w t ty e i ht hi g n cap cur hg a m c news hl hnews h1 hroom hfit
      rw [hr] at hr2
      cases hr2
      intro k hk
      exact .inl hk
    · have holds : ∀ j u, xs[j]? = some u → w.cell? ((⟨g, 0, none⟩ : Addr).add j) = some u := hown.cells (g := g) rfl
      have hr2 := run_append_grow (P := P) w t ty e i z ht hi hz ⟨g, 0, none⟩ n cap xs hown.1 holds a m c news hl hnews (by omega) (by omega) (growslice_fits (by omega) hbytes)
      rw [hr] at hr2
      cases hr2
      intro k hk
      simp [Value.ownBlock] at hk
      exact .inr (by omega)

section
variable {w : World} {ops : Array Oper} {rest : List Oper} {o : Oper} {a : Act} {Q : Exit → Act → World → Prop}
theorem wpList_append_ents (hgd : o.guard = none) (s x : Operand) (ho : o.op = .call { callee := .builtin .append, args := #[s, x], argTypes := #[30, 30] })
    (v : Value) (ps : List (Ent × Value)) (hs : a.eval s = v) (hown : w.ownsRow 0 38 8 v ps.length (flatE ps))
    (y : Value) (qs : List (Ent × Value)) (hx : a.eval x = y) (hy : RowE w y qs) (h1 : ∀ u ∈ flatE qs, u.oneCell' = true) (hlen : ps.length + qs.length ≤ 1000000)
    (h : ∀ v' w', w'.ownsRow 0 38 8 v' (ps ++ qs).length (flatE (ps ++ qs)) → w.grownBy w' v.ownBlock → (∀ k, v'.ownBlock = some k → v.ownBlock = some k ∨ w.heap.size ≤ k) → wpList Try.prog ops Q rest (a.put o.dst v') w') : wpList Try.prog ops Q (o :: rest) a w := by
  obtain ⟨ad, c, rfl, k1, k2, k3, k4⟩ := hy
  obtain ⟨i, hi, hz, hs1, hs2⟩ := infoE
  have hmax : ps.length + qs.length ≤ maxLen := by unfold maxLen; omega
  have Ht : Try.prog.underlying 30 = some (.slice 38) := Try.underlying30
  refine wpList_plain hgd fun K hK => ?_
  unfold Oper.wp
  have fin : ∀ (v' : Value) (w' : World), w'.ownsRow 0 38 8 v' (ps.length + qs.length) (flatE ps ++ flatE qs) → w'.ownsRow 0 38 8 v' (ps ++ qs).length (flatE (ps ++ qs)) := fun v' w' hh => by
    rw [List.length_append, flatE_append]
    exact hh
  cases ad with
  | none =>
    have h0 := k3 rfl
    subst h0
    have h0 : qs = [] := List.eq_nil_of_length_eq_zero (by omega)
    subst h0
    have hrun := run_append_owned_none (P := Try.prog) w 0 30 o.type 38 i 8 Ht hi v _ _ hown
    simp [execOp, ho, resolve, invoke, builtin, hs, hx, hrun, Result.andThen]
    exact hK _ _ (h v w (by simpa using hown) (grown_refl _ _) (fun k hk => .inl hk))
  | some ad =>
    have hcells : ∀ j u, (flatE qs)[j]? = some u → w.cell? (ad.add j) = some u := fun j u hj => by
      have hp : 0 < qs.length := by
        have := (List.getElem?_eq_some_iff.1 hj).1
        rw [flatE_length] at this
        omega
      obtain ⟨b, off, e, hc⟩ := k4 hp
      cases e
      rw [Addr.add_lit]
      exact hc j u hj
    obtain ⟨v', w', hrun, r1, r2, r3⟩ := run_append_where (P := Try.prog) w 0 30 o.type 38 i _ 8 80 Ht hi hz hs1 hs2 rfl (by decide) v ps.length (flatE ps) hown ad qs.length c (flatE qs) (flatE_length qs) hcells h1 hmax (by omega) (Nat.zero_le _)
    simp [execOp, ho, resolve, invoke, builtin, hs, hx, hrun, Result.andThen]
    exact hK _ _ (h v' w' (fin _ _ r1) r2 r3)
end

/-- One entry, as a row of its own. -/
theorem rowE_one (w : World) (e : Ent) (y : Value) : RowE (w.alloc (.cells #[.int .i64 e.w, .int .i64 e.i, .int .u64 e.p, .int .i64 e.t, .int .i64 e.u, .int .i64 e.n, y, .int .u64 e.g] 38)) (.slice (some ⟨w.heap.size, 0, none⟩) 1 1) [(e, y)] := by
  refine ⟨some ⟨w.heap.size, 0, none⟩, 1, rfl, Nat.le_refl _, by unfold maxLen; omega, (fun h => by cases h), fun _ => ⟨w.heap.size, 0, rfl, fun j u hj => ?_⟩⟩
  have X := blk_new w [.int .i64 e.w, .int .i64 e.i, .int .u64 e.p, .int .i64 e.t, .int .i64 e.u, .int .i64 e.n, y, .int .u64 e.g] 38
  rw [Nat.zero_add]
  exact X.cell j u (by simpa [flatE, ec] using hj)

theorem RowE.at0 {w : World} {v : Value} {ps : List (Ent × Value)} {k : Nat} (h : RowE w v ps) (hk : v.ownBlock = some k) {w' : World} (hb : w'.heap[k]? = w.heap[k]?) : RowE w' v ps := h.blocks fun k' hk' _ => by
  rw [hk] at hk'
  cases hk'
  exact hb
end

section
set_option linter.unusedVariables false
set_option linter.unusedSimpArgs false
set_option synthInstance.maxSize 20000
set_option maxHeartbeats 2000000
set_option maxRecDepth 20000
open Go.RowKit Go.Maps
def zq : Ent × Value := (zeroE, .slice none 0 0)
def set8 (xs : List Value) (n : Nat) (u0 u1 u2 u3 u4 u5 u6 u7 : Value) : List Value := (((((((xs.set n u0).set (n + 1) u1).set (n + 2) u2).set (n + 3) u3).set (n + 4) u4).set (n + 5) u5).set (n + 6) u6).set (n + 7) u7
theorem set8_right (A B : List Value) (n : Nat) (u0 u1 u2 u3 u4 u5 u6 u7 : Value) (h : A.length ≤ n) : set8 (A ++ B) n u0 u1 u2 u3 u4 u5 u6 u7 = A ++ set8 B (n - A.length) u0 u1 u2 u3 u4 u5 u6 u7 := by
  unfold set8
  rw [List.set_append_right _ _ h, List.set_append_right _ _ (by omega), List.set_append_right _ _ (by omega), List.set_append_right _ _ (by omega), List.set_append_right _ _ (by omega), List.set_append_right _ _ (by omega), List.set_append_right _ _ (by omega), List.set_append_right _ _ (by omega)]
  rw [show n + 1 - A.length = n - A.length + 1 by omega, show n + 2 - A.length = n - A.length + 2 by omega, show n + 3 - A.length = n - A.length + 3 by omega, show n + 4 - A.length = n - A.length + 4 by omega, show n + 5 - A.length = n - A.length + 5 by omega, show n + 6 - A.length = n - A.length + 6 by omega, show n + 7 - A.length = n - A.length + 7 by omega]
theorem flatE_set (ps : List (Ent × Value)) (i : Nat) (e : Ent) (y : Value) (hi : i < ps.length) : set8 (flatE ps) (i * 8) (.int .i64 e.w) (.int .i64 e.i) (.int .u64 e.p) (.int .i64 e.t) (.int .i64 e.u) (.int .i64 e.n) y (.int .u64 e.g) = flatE (ps.set i (e, y)) := by
  induction ps generalizing i with
  | nil => simp at hi
  | cons q ps ih =>
    cases i with
    | zero =>
      unfold flatE
      rw [List.flatMap_cons, List.set_cons_zero, List.flatMap_cons]
      rfl
    | succ i =>
      have := ih i (by simpa using hi)
      unfold flatE at *
      rw [List.flatMap_cons, List.set_cons_succ, List.flatMap_cons, ← this, set8_right _ _ _ _ _ _ _ _ _ _ _ (by show 8 ≤ _; omega)]
      rw [show (i + 1) * 8 - (ec q.1 q.2).length = i * 8 by show (i + 1) * 8 - 8 = _; omega]

theorem made_ents (n : Nat) : (madeCells (Value.agg #[.int .i64 0, .int .i64 0, .int .u64 0, .int .i64 0, .int .i64 0, .int .i64 0, .slice none 0 0, .int .u64 0]).cells (n * 8)).toList = flatE (List.replicate n zq) := by
  apply List.ext_getElem?
  intro k
  by_cases hk : k < n * 8
  · have h1 : (flatE (List.replicate n zq))[k / 8 * 8 + k % 8]? = (ec zq.1 zq.2)[k % 8]? := by
      have hlt : k % 8 < (ec zq.1 zq.2).length := by show _ < 8; omega
      rw [List.getElem?_eq_getElem hlt]
      exact flatE_at (q := zq) (by rw [List.getElem?_replicate, if_pos (by omega)]) _ _ (List.getElem?_eq_getElem hlt)
    rw [show k / 8 * 8 + k % 8 = k by omega] at h1
    rw [h1]
    have h2 : k % 8 < 8 := by omega
    simp [madeCells, hk, Value.cells, zq, zeroE, ec]
    generalize k % 8 = r at *
    match r, h2 with
    | 0, _ => rfl
    | 1, _ => rfl
    | 2, _ => rfl
    | 3, _ => rfl
    | 4, _ => rfl
    | 5, _ => rfl
    | 6, _ => rfl
    | 7, _ => rfl
  · rw [List.getElem?_eq_none (by simp [madeCells]; omega), List.getElem?_eq_none (by rw [flatE_length, List.length_replicate]; omega)]

theorem make_ents (w : World) (n : Nat) (hn : n ≤ 100000) : (Instr.makeSlice 30 (.int .i64 (n : Int)) (.int .i64 (n : Int))).run Try.prog w = .ok (.slice (some ⟨w.heap.size, 0, none⟩) n n) (w.alloc (.cells (flatE (List.replicate n zq)).toArray 38)) := by
  obtain ⟨i, hi, hz, hs1, hs2⟩ := infoE
  have h := run_make (P := Try.prog) w 30 38 i _ Try.underlying30 hi hz .i64 .i64 n n (by omega) (Int.le_refl _) (by rw [hs2]; omega) (by omega)
  rw [h, hs1, ← made_ents]
  simp

/-- Eight stores into a row of one's own. -/
theorem row_set8 {w : World} {g cap : Nat} {ps : List (Ent × Value)} (h : w.ownsRow 0 38 8 (.slice (some ⟨g, 0, none⟩) ps.length cap) ps.length (flatE ps)) {i : Nat} (hi : i < ps.length) (e : Ent) (y : Value) :
    let w' := ((((((((w.setCell ⟨g, i * 8, none⟩ (.int .i64 e.w)).setCell ⟨g, i * 8 + 1, none⟩ (.int .i64 e.i)).setCell ⟨g, i * 8 + 2, none⟩ (.int .u64 e.p)).setCell ⟨g, i * 8 + 3, none⟩ (.int .i64 e.t)).setCell ⟨g, i * 8 + 4, none⟩ (.int .i64 e.u)).setCell ⟨g, i * 8 + 5, none⟩ (.int .i64 e.n)).setCell ⟨g, i * 8 + 6, none⟩ y).setCell ⟨g, i * 8 + 7, none⟩ (.int .u64 e.g))
    w'.ownsRow 0 38 8 (.slice (some ⟨g, 0, none⟩) (ps.set i (e, y)).length cap) (ps.set i (e, y)).length (flatE (ps.set i (e, y))) ∧ w.grownBy w' (some g) := by
  have s0 := h.stored (i * 8) (.int .i64 e.w)
  have s1 := s0.1.stored (i * 8 + 1) (.int .i64 e.i)
  have s2 := s1.1.stored (i * 8 + 2) (.int .u64 e.p)
  have s3 := s2.1.stored (i * 8 + 3) (.int .i64 e.t)
  have s4 := s3.1.stored (i * 8 + 4) (.int .i64 e.u)
  have s5 := s4.1.stored (i * 8 + 5) (.int .i64 e.n)
  have s6 := s5.1.stored (i * 8 + 6) y
  have s7 := s6.1.stored (i * 8 + 7) (.int .u64 e.g)
  refine ⟨?_, ?_⟩
  · rw [List.length_set, ← flatE_set ps i e y hi]
    exact s7.1
  · exact grown_trans (grown_trans (grown_trans (grown_trans (grown_trans (grown_trans (grown_trans s0.2 s1.2 (fun k hk => .inl hk)) s2.2 (fun k hk => .inl hk)) s3.2 (fun k hk => .inl hk)) s4.2 (fun k hk => .inl hk)) s5.2 (fun k hk => .inl hk)) s6.2 (fun k hk => .inl hk)) s7.2 (fun k hk => .inl hk)
theorem row_cell {w : World} {g cap n : Nat} {ps : List (Ent × Value)} (h : w.ownsRow 0 38 8 (.slice (some ⟨g, 0, none⟩) n cap) n (flatE ps)) {i : Nat} {q : Ent × Value} (hi : ps[i]? = some q) (hn : n = ps.length) (j : Nat) (u : Value) (hj : (ec q.1 q.2)[j]? = some u) : w.cell? ⟨g, i * 8 + j, none⟩ = some u := by
  subst hn
  have hlt : i < ps.length := (List.getElem?_eq_some_iff.1 hi).1
  have hj8 : j < 8 := (List.getElem?_eq_some_iff.1 hj).1
  rw [h.cellAt (i * 8 + j) (by omega)]
  exact flatE_at hi j u hj

end

section
set_option linter.unusedVariables false
set_option linter.unusedSimpArgs false
set_option synthInstance.maxSize 20000
set_option maxHeartbeats 2000000
set_option maxRecDepth 20000
open Go.RowKit Go.Maps

theorem Blk.past {w w' : World} {b c : Nat} {e : TypeId} {vs : List Value} (h : Blk w b e vs) (hg : w.grownBy w' (some c)) (hne : b ≠ c) : Blk w' b e vs := h.block (hg.block b h.lt (fun e => hne (Option.some.inj e)))
theorem Blk.past' {w w' : World} {b : Nat} {e : TypeId} {vs : List Value} {r : Option Nat} (h : Blk w b e vs) (hg : w.grownBy w' r) (hne : r ≠ some b) : Blk w' b e vs := h.block (hg.block b h.lt (fun e => hne e.symm))
theorem turn_grown {w w' : World} {r : Option Nat} (h : w.grownBy w' r) : Turn r.toList w w' := ⟨h.os, h.tape, h.output, h.size, fun k hk hn => h.block k hk (fun e => hn (by rw [← e]; simp))⟩
end

section
set_option linter.unusedVariables false
set_option linter.unusedSimpArgs false
set_option synthInstance.maxSize 20000
set_option maxHeartbeats 2000000
set_option maxRecDepth 20000
open Go.RowKit Go.Maps

/-- An owner that has no block yet. -/
theorem fresh_owner (w : World) (o : Nat → Nat) (j : Nat) : ∃ c, 1 < c ∧ j < c ∧ ∀ k, k < w.heap.size → o k ≠ c := by
  have key : ∀ n : Nat, ∃ c, 1 < c ∧ j < c ∧ ∀ k, k < n → o k < c := by
    intro n
    induction n with
    | zero => exact ⟨j + 2, by omega, by omega, fun k hk => by omega⟩
    | succ n ih =>
      obtain ⟨c, h1, h2, h3⟩ := ih
      refine ⟨max c (o n + 1), by omega, by omega, fun k hk => ?_⟩
      by_cases e : k = n
      · subst e; omega
      · have := h3 k (by omega); omega
  obtain ⟨c, h1, h2, h3⟩ := key w.heap.size
  exact ⟨c, h1, h2, fun k hk e => by have := h3 k hk; omega⟩
theorem Mv.restrict {I : List Nat} {c : Nat} {w w' : World} {o o' : Nat → Nat} (h : Mv (c :: I) w o w' o') (hc : ∀ k, k < w.heap.size → o k ≠ c) : Mv I w o w' o' :=
  ⟨h.os, h.tape, h.output, h.size, h.ext, fun k hk hn => h.block k hk (fun e => by
    rcases List.mem_cons.1 e with r | r
    · exact hc k hk r
    · exact hn r)⟩
end
end Go.Proofs.Ytigfklcclfpcjaa
