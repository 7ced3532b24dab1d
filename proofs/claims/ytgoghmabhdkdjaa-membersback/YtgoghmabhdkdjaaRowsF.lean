/-
  Rows of structs in memory, whatever the struct: what a slice shows (RowF), one element loaded or stored, append, make, copy.
-/
import Derived.Test.YtgoghmabhdkdjaaBig
namespace Go.Proofs.Ytgoghmabhdkdjaa
set_option linter.unusedVariables false
set_option linter.unusedSimpArgs false
set_option synthInstance.maxSize 20000
set_option maxHeartbeats 2000000
set_option maxRecDepth 20000
open Go.RowKit Go.Maps

/-! ### Many cells stored -/
theorem splice_cons {L : List Value} {o : Nat} {v : Value} {vs : List Value} (h : o < L.length) : splice (L.set o v) (o + 1) vs = splice L o (v :: vs) := by
  unfold splice
  rw [List.take_set, List.drop_set_of_lt (by omega), List.length_cons, List.cons_append, show o + 1 + vs.length = o + (vs.length + 1) by omega]
  rw [List.take_succ_eq_append_getElem h, List.set_append_right _ _ (by simp; omega)]
  simp [Nat.min_eq_left (Nat.le_of_lt h)]
theorem heap_setCells (g : Nat) (e : TypeId) : ∀ (vs : List Value) (off : Nat) (w : World) (L : List Value), w.heap[g]? = some (.cells L.toArray e (0, 0)) → off + vs.length ≤ L.length →
    (w.setCells g off vs).heap[g]? = some (.cells (splice L off vs).toArray e (0, 0))
  | [], off, w, L, h, _ => by
    rw [World.setCells, h]
    simp [splice]
  | v :: vs, off, w, L, h, hl => by
    rw [List.length_cons] at hl
    rw [World.setCells]
    have h1 := heap_setCell_same w g off L.toArray e v h
    have h2 := heap_setCells g e vs (off + 1) (w.setCell ⟨g, off, none⟩ v) (L.set off v) (by rw [h1]; simp) (by rw [List.length_set]; omega)
    rw [h2, splice_cons (by omega)]
theorem grown_setCells (g : Nat) : ∀ (vs : List Value) (off : Nat) (w : World), w.grownBy (w.setCells g off vs) (some g)
  | [], off, w => grown_refl _ _
  | v :: vs, off, w => by
    rw [World.setCells]
    exact grown_trans (grown_setCell w g off v) (grown_setCells g vs (off + 1) _) (fun k hk => .inl hk)
theorem Blk.range {w : World} {b : Nat} {e : TypeId} {vs xs : List Value} (h : Blk w b e vs) (off : Nat) (hx : ∀ j u, xs[j]? = some u → vs[off + j]? = some u) : w.rangeAt b off xs := fun j u hj => h.cell _ _ (hx j u hj)
theorem Blk.range0 {w : World} {b : Nat} {e : TypeId} {vs : List Value} (h : Blk w b e vs) : w.rangeAt b 0 vs := h.range 0 (fun j u hj => by rw [Nat.zero_add]; exact hj)
theorem Blk.there {w : World} {b : Nat} {e : TypeId} {vs : List Value} (h : Blk w b e vs) (off n : Nat) (hl : off + n ≤ vs.length) : w.there b off n := fun j hj =>
  ⟨by rw [h.cell (off + j) _ (List.getElem?_eq_getElem (by omega))]; rfl, h.frozen _⟩
theorem Blk.setCells {w : World} {b : Nat} {e : TypeId} {vs : List Value} (h : Blk w b e vs) (off : Nat) (xs : List Value) (hl : off + xs.length ≤ vs.length) : Blk (w.setCells b off xs) b e (splice vs off xs) := heap_setCells b e xs off w vs h hl
theorem splice_all (vs xs : List Value) (h : xs.length = vs.length) : splice vs 0 xs = xs := by
  unfold splice
  rw [List.take_zero, List.nil_append, Nat.zero_add, h, List.drop_length, List.append_nil]

section
variable {α : Type} {f : α → List Value} {k : Nat} {e : TypeId} {w : World} {g n cap B : Nat} {l : List α}

theorem row_range (hk : ∀ x, (f x).length = k) (h : w.ownsRow B e k (.slice (some ⟨g, 0, none⟩) n cap) n (flat f l)) {i : Nat} {x : α} (hi : l[i]? = some x) : w.rangeAt g (i * k) (f x) := fun j u hj => by
  have := h.cells (g := g) rfl (i * k + j) u (flat_at hk hi j u hj)
  rw [Addr.add_lit] at this
  simpa using this
theorem row_len (hk : ∀ x, (f x).length = k) (hk0 : 0 < k) {v : Value} (h : w.ownsRow B e k v n (flat f l)) : n = l.length := by
  have := h.1
  rw [flat_length hk] at this
  exact (Nat.eq_of_mul_eq_mul_right hk0 this).symm
theorem row_there (hk : ∀ x, (f x).length = k) (h : w.ownsRow B e k (.slice (some ⟨g, 0, none⟩) n cap) n (flat f l)) {i : Nat} (hi : i < l.length) : w.there g (i * k) k := fun j hj => by
  obtain ⟨x, hx⟩ : ∃ x, l[i]? = some x := ⟨_, List.getElem?_eq_getElem hi⟩
  refine ⟨?_, h.frozenAt _⟩
  rw [row_range hk h hx j _ (List.getElem?_eq_getElem (by rw [hk]; exact hj))]
  rfl
theorem row_put (hk : ∀ x, (f x).length = k) (h : w.ownsRow B e k (.slice (some ⟨g, 0, none⟩) n cap) n (flat f l)) {i : Nat} (hi : i < l.length) (hn : n = l.length) (x : α) :
    (w.setCells g (i * k) (f x)).ownsRow B e k (.slice (some ⟨g, 0, none⟩) n cap) n (flat f (l.set i x)) := by
  obtain ⟨h1, h2⟩ := h
  rcases h2 with ⟨e, _⟩ | ⟨g', cap', cur, e, h3, h4, h5, h6, h7, h8⟩
  · cases e
  · cases e
    have hik : i * k + k ≤ n * k := by
      have : (i + 1) * k ≤ n * k := Nat.mul_le_mul_right _ (by omega)
      rw [Nat.add_mul] at this
      omega
    have hnc : n * k ≤ cap * k := Nat.mul_le_mul_right _ h5
    have h9 := heap_setCells g _ (f x) (i * k) w cur.toList (by simpa using h4) (by rw [hk, Array.length_toList, h7]; omega)
    refine ⟨by rw [flat_length hk, List.length_set, hn], .inr ⟨g, cap, _, rfl, h3, h9, h5, h6, ?_, ?_⟩⟩
    · rw [List.size_toArray, length_splice _ _ _ (by rw [hk, Array.length_toList, h7]; omega), Array.length_toList, h7]
    · rw [← flat_set hk l i x hi, ← h8]
      unfold splice
      rw [hk]
      show List.take (n * k) (_ ++ _) = _
      rw [List.take_append, List.take_append, List.take_take, List.length_take, Array.length_toList, h7, Nat.min_eq_right (by omega), Nat.min_eq_left (by omega), hk, List.take_of_length_le (l := f x) (by rw [hk]; omega), List.take_take, Nat.min_eq_left (by omega), List.drop_take]
      rw [show n * k - (i * k + k) = n * k - i * k - k by omega]
theorem row_zero (hk : ∀ x, (f x).length = k) (n : Nat) (x : α) : (madeCells (f x).toArray (n * k)).toList = flat f (List.replicate n x) := by
  apply List.ext_getElem?
  intro j
  by_cases hj : j < n * k
  · rw [flat_replicate hk n x j hj]
    have hk0 : 0 < k := by
      rcases Nat.eq_zero_or_pos k with h | h
      · subst h; simp at hj
      · exact h
    have hlt : j % k < (f x).length := by rw [hk]; exact Nat.mod_lt _ hk0
    rw [List.getElem?_eq_getElem hlt]
    simp [madeCells, hj]
    simp only [hk]
    rw [List.getElem?_eq_getElem hlt]
    rfl
  · rw [List.getElem?_eq_none (by simp [madeCells]; omega), List.getElem?_eq_none (by rw [flat_length hk, List.length_replicate]; omega)]

/-- A slice value that shows structs, wherever they lie. -/
def RowF (f : α → List Value) (w : World) (v : Value) (l : List α) : Prop :=
  ∃ (a : Option Addr) (cap : Nat), v = .slice a l.length cap ∧ l.length ≤ cap ∧ cap ≤ maxLen ∧ (a = none → cap = 0) ∧ (0 < l.length → ∃ b off, a = some ⟨b, off, none⟩ ∧ w.rangeAt b off (flat f l))
theorem rowF_nil (w : World) : RowF f w (.slice none 0 0) [] := ⟨none, 0, rfl, Nat.le_refl _, Nat.zero_le _, fun _ => rfl, fun h => by simp at h⟩
theorem rowF_own (hk : ∀ x, (f x).length = k) {v : Value} (h : w.ownsRow B e k v l.length (flat f l)) : RowF f w v l := by
  have h' := h
  obtain ⟨h1, h2⟩ := h
  rcases h2 with ⟨rfl, hn⟩ | ⟨g, cap, cur, rfl, hb, hg, hn, hc, hs, ht⟩
  · have : l = [] := List.eq_nil_of_length_eq_zero hn
    subst this
    exact rowF_nil w
  · refine ⟨some ⟨g, 0, none⟩, cap, rfl, hn, hc, (fun h => by cases h), fun _ => ⟨g, 0, rfl, fun j u hj => ?_⟩⟩
    have := h'.cells (g := g) rfl j u hj
    rw [Addr.add_lit] at this
    exact this
theorem rangeAt_blocks {w w' : World} {b off : Nat} {xs : List Value} (h : w.rangeAt b off xs) (hb : b < w.heap.size → w'.heap[b]? = w.heap[b]?) : w'.rangeAt b off xs := fun j u hj => by
  have := h j u hj
  rw [World.cell?_of_block (hb (World.block_lt_of_cell? w _ this))]
  exact this
theorem RowF.blocks {w w' : World} {v : Value} (h : RowF f w v l) (hb : ∀ j, v.ownBlock = some j → j < w.heap.size → w'.heap[j]? = w.heap[j]?) : RowF f w' v l := by
  obtain ⟨a, cap, rfl, h1, h2, h3, h4⟩ := h
  refine ⟨a, cap, rfl, h1, h2, h3, fun hp => ?_⟩
  obtain ⟨b, off, rfl, hc⟩ := h4 hp
  exact ⟨b, off, rfl, rangeAt_blocks hc (hb b rfl)⟩
theorem RowF.below {w w' : World} {v : Value} (h : RowF f w v l) (hb : Below w.heap.size w w') : RowF f w' v l := h.blocks fun k _ hk => hb.block k hk
theorem RowF.caps {w : World} {a : Option Addr} {n cap : Nat} (h : RowF f w (.slice a n cap) l) : n = l.length ∧ n ≤ cap ∧ cap ≤ 9223372036854775807 := by
  obtain ⟨a', cap', e, h1, h2, h3, h4⟩ := h
  obtain ⟨rfl, rfl, rfl⟩ : a = a' ∧ n = l.length ∧ cap = cap' := by simpa using e
  exact ⟨rfl, h1, by unfold maxLen at h2; omega⟩
theorem RowF.len {w : World} {v : Value} (h : RowF f w v l) : ∃ a cap, v = .slice a l.length cap := ⟨h.choose, h.choose_spec.choose, h.choose_spec.choose_spec.1⟩
theorem RowF.at (hk : ∀ x, (f x).length = k) {w : World} {a : Option Addr} {n cap : Nat} (h : RowF f w (.slice a n cap) l) {i : Nat} {x : α} (hi : l[i]? = some x) : ∃ b off, a = some ⟨b, off, none⟩ ∧ w.rangeAt b (off + i * k) (f x) := by
  obtain ⟨a', cap', e, h1, h2, h3, h4⟩ := h
  obtain ⟨rfl, _, _⟩ : a = a' ∧ n = l.length ∧ cap = cap' := by simpa using e
  have hlt : i < l.length := (List.getElem?_eq_some_iff.1 hi).1
  obtain ⟨b, off, rfl, hc⟩ := h4 (by omega)
  refine ⟨b, off, rfl, fun j u hj => ?_⟩
  have := hc _ _ (flat_at hk hi j u hj)
  rwa [← Nat.add_assoc] at this
/-- One struct, as a row of its own. -/
theorem rowF_one (w : World) (x : α) (e : TypeId) : RowF f (w.alloc (.cells (f x).toArray e)) (.slice (some ⟨w.heap.size, 0, none⟩) 1 1) [x] := by
  refine ⟨some ⟨w.heap.size, 0, none⟩, 1, rfl, Nat.le_refl _, by unfold maxLen; omega, (fun h => by cases h), fun _ => ⟨w.heap.size, 0, rfl, ?_⟩⟩
  have : flat f [x] = f x := by simp [flat]
  rw [this]
  exact (blk_new w (f x) e).range0
end

/-! ### append, make, copy -/
/-- What a program's table says of a slice of structs. -/
structure RowTy (t e : TypeId) (k by' : Nat) (z : Value) : Prop where
  under : Try.prog.underlying t = some (.slice e)
  info : (Try.prog.info? e).map (fun i => (i.zero, i.size, i.bytes)) = some (some z, k, by')
  zsize : z.cells.size = k
  pos : 0 < k
section
variable {α : Type} {f : α → List Value} {t e : TypeId} {k by' : Nat} {z : Value} {w : World} {ops : Array Oper} {rest : List Oper} {o : Oper} {a : Act} {Q : Exit → Act → World → Prop}
theorem run_append_rows (hT : RowTy t e k by' z) (hk : ∀ x, (f x).length = k) (ty : TypeId) (v : Value) (ps : List α) (hown : w.ownsRow 0 e k v ps.length (flat f ps)) (y : Value) (qs : List α) (hy : RowF f w y qs) (h1 : ∀ u ∈ flat f qs, u.oneCell' = true) (hlen : ps.length + qs.length ≤ 1000000) (hby : by' ≤ 1000) :
    ∃ v' w', (Builtin.append_ #[t, t] ty #[v, y]).run Try.prog w = .ok v' w' ∧ w'.ownsRow 0 e k v' (ps ++ qs).length (flat f (ps ++ qs)) ∧ w.grownBy w' v.ownBlock ∧ (∀ j, v'.ownBlock = some j → v.ownBlock = some j ∨ w.heap.size ≤ j) := by
  obtain ⟨ad, c, rfl, k1, k2, k3, k4⟩ := hy
  obtain ⟨i, hi, hz, hs1, hs2⟩ := info_parts hT.info
  have hmax : ps.length + qs.length ≤ maxLen := by unfold maxLen; omega
  cases ad with
  | none =>
    have h0 := k3 rfl
    subst h0
    have h0 : qs = [] := List.eq_nil_of_length_eq_zero (by omega)
    subst h0
    have hrun := run_append_owned_none (P := Try.prog) w 0 t ty e i k hT.under hi v _ _ hown
    exact ⟨v, w, hrun, by simpa using hown, grown_refl _ _, fun k hk => .inl hk⟩
  | some ad =>
    have hcells : ∀ j u, (flat f qs)[j]? = some u → w.cell? (ad.add j) = some u := fun j u hj => by
      have hp : 0 < qs.length := by
        have := (List.getElem?_eq_some_iff.1 hj).1
        rw [flat_length hk] at this
        rcases Nat.eq_zero_or_pos qs.length with h | h
        · rw [h] at this; simp at this
        · exact h
      obtain ⟨b, off, e, hc⟩ := k4 hp
      cases e
      rw [Addr.add_lit]
      exact hc j u hj
    have hbound : (ps.length + qs.length) * by' ≤ 140737488355328 := Nat.le_trans (Nat.mul_le_mul hlen hby) (by omega)
    obtain ⟨v', w', hrun, r1, r2, r3⟩ := run_append_where (P := Try.prog) w 0 t ty e i z k by' hT.under hi hz hs1 hs2 hT.zsize hT.pos v ps.length (flat f ps) hown ad qs.length c (flat f qs) (flat_length hk qs) hcells h1 hmax hbound (Nat.zero_le _)
    exact ⟨v', w', hrun, by rw [List.length_append, flat_append]; exact r1, r2, r3⟩
theorem wpList_append_rows (hT : RowTy t e k by' z) (hk : ∀ x, (f x).length = k) (hby : by' ≤ 1000) (hgd : o.guard = none) (s x : Operand) (ho : o.op = .call { callee := .builtin .append, args := #[s, x], argTypes := #[t, t] })
    (v : Value) (ps : List α) (hs : a.eval s = v) (hown : w.ownsRow 0 e k v ps.length (flat f ps)) (y : Value) (qs : List α) (hx : a.eval x = y) (hy : RowF f w y qs) (h1 : ∀ u ∈ flat f qs, u.oneCell' = true) (hlen : ps.length + qs.length ≤ 1000000)
    (h : ∀ v' w', w'.ownsRow 0 e k v' (ps ++ qs).length (flat f (ps ++ qs)) → w.grownBy w' v.ownBlock → (∀ j, v'.ownBlock = some j → v.ownBlock = some j ∨ w.heap.size ≤ j) → wpList Try.prog ops Q rest (a.put o.dst v') w') : wpList Try.prog ops Q (o :: rest) a w := by
  obtain ⟨v', w', hrun, r1, r2, r3⟩ := run_append_rows hT hk o.type v ps hown y qs hy h1 hlen hby
  refine wpList_plain hgd fun K hK => ?_
  unfold Oper.wp
  simp [execOp, ho, resolve, invoke, builtin, hs, hx, hrun, Result.andThen]
  exact hK _ _ (h v' w' r1 r2 r3)
theorem run_make_rows (hT : RowTy t e k by' z) (hk : ∀ x, (f x).length = k) (x0 : α) (hz : z.cells = (f x0).toArray) (w : World) (n : Nat) (hn : n ≤ 100000) (hby : by' ≤ 1000) :
    (Instr.makeSlice t (.int .i64 (n : Int)) (.int .i64 (n : Int))).run Try.prog w = .ok (.slice (some ⟨w.heap.size, 0, none⟩) n n) (w.alloc (.cells (flat f (List.replicate n x0)).toArray e)) := by
  obtain ⟨i, hi, hzz, hs1, hs2⟩ := info_parts hT.info
  have hb : by' * n ≤ 1000 * 100000 := Nat.mul_le_mul hby hn
  have h := run_make (P := Try.prog) w t e i _ hT.under hi hzz .i64 .i64 n n (by omega) (Int.le_refl _) (by rw [hs2]; omega) (by omega)
  rw [h, hs1, hz, ← row_zero hk]
  simp
theorem row_made (hk : ∀ x, (f x).length = k) (x0 : α) (w : World) (n : Nat) (hn : n ≤ 100000) : (w.alloc (.cells (flat f (List.replicate n x0)).toArray e)).ownsRow 0 e k (.slice (some ⟨w.heap.size, 0, none⟩) n n) n (flat f (List.replicate n x0)) := by
  refine ⟨by rw [flat_length hk, List.length_replicate], .inr ⟨w.heap.size, n, _, rfl, Nat.zero_le _, heap_alloc_new w _, Nat.le_refl _, by unfold maxLen; omega, ?_, ?_⟩⟩
  · rw [List.size_toArray, flat_length hk, List.length_replicate]
  · rw [List.take_of_length_le (by simp [flat_length hk])]
/-- 'copy(d, s)' of rows of one length. -/
theorem run_copy_rows (hT : RowTy t e k by' z) (hk : ∀ x, (f x).length = k) (w : World) (ty : TypeId) (g n cap : Nat) (ps qs : List α) (hd : w.ownsRow 0 e k (.slice (some ⟨g, 0, none⟩) n cap) n (flat f ps)) (ad : Addr) (c : Nat) (hs : RowF f w (.slice (some ad) n c) qs) (hl : ps.length = n) (hq : qs.length = n) (h1 : ∀ u ∈ flat f qs, u.oneCell' = true) :
    (Builtin.copy_ #[t, t] ty #[.slice (some ⟨g, 0, none⟩) n cap, .slice (some ad) n c]).run Try.prog w = .ok (goInt n) (w.setCells g 0 (flat f qs)) := by
  obtain ⟨i, hi, hz, hs1, hs2⟩ := info_parts hT.info
  have hsrc : ∀ j u, (flat f qs)[j]? = some u → w.cell? (ad.add j) = some u := fun j u hj => by
    obtain ⟨a', cap', e', k1, k2, k3, k4⟩ := hs
    have hp : 0 < qs.length := by
      have := (List.getElem?_eq_some_iff.1 hj).1
      rw [flat_length hk] at this
      rcases Nat.eq_zero_or_pos qs.length with h | h
      · rw [h] at this; simp at this
      · exact h
    obtain ⟨b, off, ea, hc⟩ := k4 hp
    obtain ⟨rfl, _, _⟩ : some ad = a' ∧ n = qs.length ∧ c = cap' := by simpa using e'
    cases ea
    rw [Addr.add_lit]
    exact hc j u hj
  have hn : (flat f qs).length = Nat.min n n * i.size := by rw [flat_length hk, hq, hs1]; simp
  have hfc := run_firstCells_some (P := Try.prog) w i.size (Nat.min n n) ad n c (flat f qs) hn hsrc
  have hcell : ∀ j, j < (flat f qs).length → (w.cell? ⟨g, 0 + j, none⟩).isSome = true := fun j hj => by
    have h2 : j < (flat f ps).length := by rw [flat_length hk, hl]; rw [flat_length hk, hq] at hj; exact hj
    have := hd.cells (g := g) rfl j _ (List.getElem?_eq_getElem h2)
    rw [Addr.add_lit] at this
    rw [this]
    rfl
  have hst := run_storeCells_cells (P := Try.prog) g 0 (flat f qs) 0 w (by simpa using hcell) (fun j hj => hd.frozenAt _) h1
  rw [Nat.add_zero] at hst
  have hmin : Nat.min n n = n := Nat.min_self n
  rw [hmin] at hfc
  simp [Builtin.copy_, run_underlying hT.under, Builtin.lenOf, sizeOf, typeInfo, hi, hfc, hst]
theorem row_copied (hk : ∀ x, (f x).length = k) {w : World} {g n cap : Nat} {ps qs : List α} (hd : w.ownsRow 0 e k (.slice (some ⟨g, 0, none⟩) n cap) n (flat f ps)) (hq : qs.length = n) : (w.setCells g 0 (flat f qs)).ownsRow 0 e k (.slice (some ⟨g, 0, none⟩) n cap) n (flat f qs) := by
  obtain ⟨h1, h2⟩ := hd
  rcases h2 with ⟨e, _⟩ | ⟨g', cap', cur, e, h3, h4, h5, h6, h7, h8⟩
  · cases e
  · cases e
    have hnc : n * k ≤ cap * k := Nat.mul_le_mul_right _ h5
    have hfl : (flat f qs).length = n * k := by rw [flat_length hk, hq]
    have h9 := heap_setCells g _ (flat f qs) 0 w cur.toList (by simpa using h4) (by rw [hfl, Array.length_toList, h7]; omega)
    refine ⟨hfl, .inr ⟨g, cap, _, rfl, h3, h9, h5, h6, ?_, ?_⟩⟩
    · rw [List.size_toArray, length_splice _ _ _ (by rw [hfl, Array.length_toList, h7]; omega), Array.length_toList, h7]
    · unfold splice
      show List.take (n * k) (_ ++ _) = _
      rw [List.take_zero, List.nil_append, ← hfl, List.take_left]
theorem wpList_copy_rows (hT : RowTy t e k by' z) (hk : ∀ x, (f x).length = k) (hgd : o.guard = none) (d s : Operand) (ho : o.op = .call { callee := .builtin .copy, args := #[d, s], argTypes := #[t, t] })
    (g n cap : Nat) (ps qs : List α) (hd : a.eval d = .slice (some ⟨g, 0, none⟩) n cap) (hown : w.ownsRow 0 e k (.slice (some ⟨g, 0, none⟩) n cap) n (flat f ps)) (ad : Addr) (c : Nat) (hs : a.eval s = .slice (some ad) n c) (hy : RowF f w (.slice (some ad) n c) qs) (hl : ps.length = n) (hq : qs.length = n) (h1 : ∀ u ∈ flat f qs, u.oneCell' = true)
    (h : (w.setCells g 0 (flat f qs)).ownsRow 0 e k (.slice (some ⟨g, 0, none⟩) n cap) n (flat f qs) → w.grownBy (w.setCells g 0 (flat f qs)) (some g) → wpList Try.prog ops Q rest (a.put o.dst (goInt n)) (w.setCells g 0 (flat f qs))) : wpList Try.prog ops Q (o :: rest) a w := by
  have hrun := run_copy_rows hT hk w o.type g n cap ps qs hown ad c hy hl hq h1
  refine wpList_plain hgd fun K hK => ?_
  unfold Oper.wp
  simp [execOp, ho, resolve, invoke, builtin, hd, hs, hrun, Result.andThen]
  exact hK _ _ (h (row_copied hk hown hq) (grown_setCells _ _ _ _))
end

end Go.Proofs.Ytgoghmabhdkdjaa
