/-
  Rows of wraps hold no byte: so bytes that a reader has stay while such a row is written.
-/
import Derived.Test.YtgoghmabhdkdjaaBkB
import Derived.Test.YtgoghmabhdkdjaaMb
namespace Go.Proofs.Ytgoghmabhdkdjaa
set_option linter.unusedVariables false
set_option linter.unusedSimpArgs false
set_option synthInstance.maxSize 20000
set_option maxHeartbeats 2000000
set_option maxRecDepth 20000
open Go.RowKit Go.Maps

/-- A row of wraps of the call's own. -/
def OwnW (B : Nat) (w : World) (v : Value) (l : List Wq) : Prop := w.ownsRow B 81 2 v l.length (flat wq l)
theorem OwnW.lt {B : Nat} {w : World} {v : Value} {l : List Wq} (h : OwnW B w v l) (k : Nat) (hk : v.ownBlock = some k) : B ≤ k ∧ k < w.heap.size := World.ownsRow.lt h k hk
theorem infoW : ∃ i, Try.prog.info? 81 = some i ∧ i.zero = some (.agg #[.int .i64 0, .slice none 0 0]) ∧ i.size = 2 ∧ i.bytes = 32 := info_parts ty35.info
/-- A value that is no byte. -/
def noB (u : Value) : Bool := match u with
  | .int .u8 _ => false
  | _ => true
/-- The block that v shows holds no byte. -/
def PureRow (w : World) (v : Value) : Prop := ∀ g, v.ownBlock = some g → ∃ vs, Blk w g 81 vs ∧ ∀ u ∈ vs, noB u = true
theorem pure_nil (w : World) : PureRow w (.slice none 0 0) := fun g hg => by cases hg
theorem PureRow.block {w w' : World} {v : Value} (h : PureRow w v) (hb : ∀ k, v.ownBlock = some k → w'.heap[k]? = w.heap[k]?) : PureRow w' v := fun g hg => by
  obtain ⟨vs, h1, h2⟩ := h g hg
  exact ⟨vs, h1.block (hb g hg), h2⟩
theorem PureRow.below {w w' : World} {v : Value} {B : Nat} {l : List Wq} (h : PureRow w v) (ho : OwnW B w v l) (hb : Below w.heap.size w w') : PureRow w' v := h.block fun k hk => hb.block k (ho.lt k hk).2
theorem PureRow.past {B b : Nat} {w w' : World} {v : Value} {l : List Wq} (h : PureRow w v) (ho : OwnW B w v l) (hg : w.grownBy w' (some b)) (hb : b < B) : PureRow w' v :=
  h.block fun k hk => hg.block k (ho.lt k hk).2 (fun e => by have := (ho.lt k hk).1; have := Option.some.inj e; omega)

/-- Bytes stay while a block without bytes is written: they lie in no such block. -/
theorem Rd.pastX {w w' : World} {v : Value} {l : List Int} {c : Nat} {e : TypeId} {vs : List Value} (h : Rd w v l) (hX : Blk w c e vs) (hn : ∀ u ∈ vs, noB u = true) (hg : w.grownBy w' (some c)) : Rd w' v l := by
  obtain ⟨ho, a, cap, rfl, h1, h2, h3, h4⟩ := h
  refine ⟨ho, a, cap, rfl, h1, h2, h3, fun hp => ?_⟩
  obtain ⟨d, off, rfl, hc⟩ := h4 hp
  refine ⟨d, off, rfl, fun j hj => hg.cell (hc j hj) fun e => ?_⟩
  obtain rfl : d = c := by simpa using e
  have hcj := hc j hj
  have : vs[off + j]? = some (.int .u8 (l.getD j 0)) := by
    unfold Blk at hX
    simpa [World.cell?, hX] using hcj
  have := hn _ (List.mem_of_getElem? this)
  cases this
theorem Rdr.pastX {w w' : World} {b c : Nat} {l : List Int} {k : Int} {e : TypeId} {vs : List Value} (h : Rdr w b l k) (hX : Blk w c e vs) (hn : ∀ u ∈ vs, noB u = true) (hg : w.grownBy w' (some c)) (hb : b ≠ c) : Rdr w' b l k := by
  obtain ⟨v, hv, hrd⟩ := h.left
  have hbl : w'.heap[b]? = w.heap[b]? := hg.block b (World.block_lt_of_cell? w _ hv) (fun e => hb (Option.some.inj e))
  exact ⟨⟨v, (World.cell?_of_block hbl).trans hv, hrd.pastX hX hn hg⟩, (World.cell?_of_block hbl).trans h.wrong, (World.frozen?_of_block hbl).trans h.f0, (World.frozen?_of_block hbl).trans h.f1, fun o ho => (World.cell?_of_block hbl).trans (h.two o ho), h.gone⟩
/-- .. and a reader while a row of the call's own is. -/
theorem Rdr.pastOwn {w w' : World} {b B : Nat} {l : List Int} {m : List Wq} {k : Int} {v : Value} (h : Rdr w b l k) (ho : OwnW B w v m) (hp : PureRow w v) (hg : w.grownBy w' v.ownBlock) (hb : b < B) : Rdr w' b l k := by
  cases hv : v.ownBlock with
  | none => rw [hv] at hg; exact h.kept hg
  | some g =>
    rw [hv] at hg
    obtain ⟨vs, h1, h2⟩ := hp g hv
    exact h.pastX h1 h2 hg (fun e => by have := (ho.lt g hv).1; omega)

theorem blk_newA (w : World) (c : List Value) (ar : Array Value) (e : TypeId) (b : Nat) (hb : b = w.heap.size) (h : ar = c.toArray) : Blk (w.alloc (.cells ar e)) b e c := by
  subst h hb
  exact blk_new w c e
theorem zero_pure (n : Nat) : ∀ u ∈ (Builtin.zeroCells (Value.agg #[.int .i64 0, .slice none 0 0]).cells n).toList, noB u = true := fun u hu => by
  simp [Builtin.zeroCells, Value.cells] at hu
  obtain ⟨i, hi, rfl⟩ := hu
  have : i % 2 = 0 ∨ i % 2 = 1 := by omega
  rcases this with r | r <;> rw [r] <;> rfl
theorem hc_pure (h : Wq) (hs : ∃ x n q, h.2 = .slice x n q) : ∀ u ∈ wq h, noB u = true := fun u hu => by
  obtain ⟨x, n, q, e⟩ := hs
  simp [wq, e] at hu
  rcases hu with rfl | rfl <;> rfl

/-- 'append(s, x)' of one head: the row stays without bytes. -/
theorem run_append_pure (t : TypeId) (ht : Try.prog.underlying t = some (.slice 81)) (w : World) (B : Nat) (v : Value) (l : List Wq) (h : Wq) (vb : Nat) (hown : OwnW B w v l) (hp : PureRow w v) (hX : Blk w vb 81 (wq h)) (hh : ∃ x n q, h.2 = .slice x n q) (hl : l.length ≤ 1000) (hB : B ≤ w.heap.size) :
    ∃ v' w', (∀ ty, (Builtin.append_ #[t, t] ty #[v, .slice (some ⟨vb, 0, none⟩) 1 1]).run Try.prog w = .ok v' w') ∧ OwnW B w' v' (l ++ [h]) ∧ PureRow w' v' ∧ w.grownBy w' v.ownBlock ∧ (∀ k, v'.ownBlock = some k → v.ownBlock = some k ∨ w.heap.size ≤ k) := by
  obtain ⟨i, hi, hz, hs1, hs2⟩ := infoW
  have hnews : ∀ j u, (wq h)[j]? = some u → w.cell? ((⟨vb, 0, none⟩ : Addr).add j) = some u := fun j u hu => by rw [Addr.add_lit, Nat.zero_add]; exact hX.cell j u hu
  have hone : ∀ u ∈ wq h, u.oneCell' = true := fun u hu => by
    obtain ⟨x, n, q, e⟩ := hh
    simp [wq, e] at hu
    rcases hu with rfl | rfl <;> rfl
  obtain ⟨v', w', h1, h2, h3, h4'⟩ := run_append_where (P := Try.prog) w B t 0 81 i (.agg #[.int .i64 0, .slice none 0 0]) 2 32 ht hi hz hs1 hs2 rfl (by decide) v l.length (flat wq l) hown ⟨vb, 0, none⟩ 1 1 (wq h) rfl hnews hone (by unfold maxLen; omega) (by omega) hB
  refine ⟨v', w', fun ty => h1, ?_, ?_, h3, h4'⟩
  · unfold OwnW
    rw [flat_append, List.length_append]
    simpa [flat] using h2
  · obtain ⟨hl3, hcase⟩ := hown
    rcases hcase with ⟨rfl, hn⟩ | ⟨g, cap, cur, rfl, hb, hg, hn, hc1, hs, htk⟩
    · have q := run_append_nil (P := Try.prog) w t 0 81 i (.agg #[.int .i64 0, .slice none 0 0]) ht hi hz ⟨vb, 0, none⟩ 1 1 (wq h) (by rw [hs1]; rfl) hnews (by omega) (by omega) (by omega)
      rw [h1] at q
      injection q with q1 q2
      subst q1 q2
      intro k hk
      obtain rfl : w.heap.size = k := by simpa [Value.ownBlock] using hk
      refine ⟨(wq h) ++ (Builtin.zeroCells (Value.agg #[.int .i64 0, .slice none 0 0]).cells (grownCap w 1 0 81 - 1)).toList, blk_newA w.drew _ _ 81 _ rfl (by apply Array.ext'; simp), fun u hu => ?_⟩
      rcases List.mem_append.1 hu with r | r
      · exact hc_pure h hh u r
      · exact zero_pure _ u r
    · have hpb := hp g rfl
      obtain ⟨vs, hvs, hpu⟩ := hpb
      have ev : vs.toArray = cur := by
        unfold Blk at hvs
        rw [hg] at hvs
        simpa using hvs.symm
      have ecur : cur.toList = vs := by rw [← ev]
      by_cases hr : l.length + 1 ≤ cap
      · have q := run_append_room (P := Try.prog) w t 0 81 i ht hi g l.length cap cur hg ⟨vb, 0, none⟩ 1 1 (wq h) (by rw [hs1]; rfl) hnews hone hr (by rw [hs1, hs, show (wq h).length = 2 from rfl]; omega)
        rw [h1] at q
        injection q with q1 q2
        subst q1 q2
        intro k hk
        obtain rfl : g = k := by simpa [Value.ownBlock] using hk
        refine ⟨_, setRow_heap w g cur _ 81 (0, 0) hg, fun u hu => ?_⟩
        rw [ecur] at hu
        rcases List.mem_append.1 hu with r | r
        · rcases List.mem_append.1 r with r | r
          · exact hpu u (List.mem_of_mem_take r)
          · exact hc_pure h hh u r
        · exact hpu u (List.mem_of_mem_drop r)
      · have holds : ∀ j u, (flat wq l)[j]? = some u → w.cell? ((⟨g, 0, none⟩ : Addr).add j) = some u := fun j u hu => by
          rw [Addr.add_lit, Nat.zero_add]
          refine Blk.cell hvs j u ?_
          rw [← ecur, ← htk, List.getElem?_take] at *
          split at hu
          · exact hu
          · cases hu
        have q := run_append_grow (P := Try.prog) w t 0 81 i (.agg #[.int .i64 0, .slice none 0 0]) ht hi hz ⟨g, 0, none⟩ l.length cap (flat wq l) (by rw [hs1]; exact flat_length wq_len l) holds ⟨vb, 0, none⟩ 1 1 (wq h) (by rw [hs1]; rfl) hnews (by omega) (by omega) (by rw [hs2]; exact growslice_fits (by omega) (by omega))
        rw [h1] at q
        injection q with q1 q2
        subst q1 q2
        intro k hk
        obtain rfl : w.heap.size = k := by simpa [Value.ownBlock] using hk
        refine ⟨flat wq l ++ wq h ++ (Builtin.zeroCells (Value.agg #[.int .i64 0, .slice none 0 0]).cells (grownCap w (l.length + 1) cap 81 - (l.length + 1))).toList, blk_newA w.drew _ _ 81 _ rfl (by apply Array.ext'; simp), fun u hu => ?_⟩
        rcases List.mem_append.1 hu with r | r
        · rcases List.mem_append.1 r with r | r
          · have : u ∈ vs := by rw [← ecur]; rw [← htk] at r; exact List.mem_of_mem_take r
            exact hpu u this
          · exact hc_pure h hh u r
        · exact zero_pure _ u r
end Go.Proofs.Ytgoghmabhdkdjaa
