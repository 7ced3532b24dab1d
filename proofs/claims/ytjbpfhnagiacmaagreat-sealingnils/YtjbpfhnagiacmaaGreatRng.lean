/-
  Rings in memory, of program and reference: a block, a row of keys, a row of Olds; a key or an Old is put behind, a key is set, the Olds are struck; New, Who, Count, Key.
-/
import Derived.Test.YtjbpfhnagiacmaaGreatOrcs
namespace Go.Proofs.YtjbpfhnagiacmaaGreat
set_option linter.unusedVariables false
set_option linter.unusedSimpArgs false
set_option synthInstance.maxSize 20000
set_option maxHeartbeats 2000000
set_option maxRecDepth 20000
open Go.RowKit Go.Maps
def uc (x : Int) : List Value := [.int .u64 x]
theorem uc_len (x : Int) : (uc x).length = 1 := rfl
abbrev VB := Value × List Int
def lc (q : VB) : List Value := [q.1]
theorem lc_len (q : VB) : (lc q).length = 1 := rfl
theorem tyK : RowTy 22 26 1 8 (.int .u64 0) := ⟨by kernel_rfl, by kernel_rfl, rfl, by omega⟩
theorem tyO : RowTy 62 25 1 24 (.slice none 0 0) := ⟨by kernel_rfl, by kernel_rfl, rfl, by omega⟩
def zq : VB := (.slice none 0 0, [])
theorem flat_uc_one (l : List Int) : ∀ u ∈ flat uc l, u.oneCell' = true := flat_one fun x _ u hu => by simp [uc] at hu; subst hu; rfl
structure RgAt (T : TypeId) (hd : List Value) (w : World) (o : Nat → Nat) (j rb : Nat) (ks : List Int) (kv ov : Value) (qs : List VB) : Prop where
  blk : Blk w rb T (hd ++ [kv, ov])
  own : o rb = j
  krow : w.ownsRow 0 26 1 kv ks.length (flat uc ks)
  kown : ∀ k, kv.ownBlock = some k → o k = j ∧ k ≠ rb
  orow : w.ownsRow 0 25 1 ov qs.length (flat lc qs)
  oown : ∀ k, ov.ownBlock = some k → o k = j ∧ k ≠ rb
  apart : ∀ k, kv.ownBlock = some k → ov.ownBlock ≠ some k
  olds : ∀ q ∈ qs, Kp0 w o q.1 q.2
section
variable {T : TypeId} {hd : List Value} {w w' : World} {o o' : Nat → Nat} {j rb : Nat} {ks : List Int} {kv ov : Value} {qs : List VB} {I : List Nat}
theorem RgAt.mv (h : RgAt T hd w o j rb ks kv ov qs) (m : Mv I w o w' o') (h0 : 0 ∉ I) (hj : j ∉ I) : RgAt T hd w' o' j rb ks kv ov qs :=
  ⟨h.blk.block (m.block rb h.blk.lt (by rw [h.own]; exact hj)), by rw [m.ext rb h.blk.lt]; exact h.own,
    ownsRow_block h.krow (fun k hk => m.block k (h.krow.lt k hk).2 (by rw [(h.kown k hk).1]; exact hj)), fun k hk => ⟨by rw [m.ext k (h.krow.lt k hk).2]; exact (h.kown k hk).1, (h.kown k hk).2⟩,
    ownsRow_block h.orow (fun k hk => m.block k (h.orow.lt k hk).2 (by rw [(h.oown k hk).1]; exact hj)), fun k hk => ⟨by rw [m.ext k (h.orow.lt k hk).2]; exact (h.oown k hk).1, (h.oown k hk).2⟩,
    h.apart, fun q hq => (h.olds q hq).mv m h0⟩
theorem RgAt.below (h : RgAt T hd w o j rb ks kv ov qs) (hb : Below w.heap.size w w') : RgAt T hd w' (newTo o w 0) j rb ks kv ov qs := h.mv (Mv.of_below (I := []) 0 hb) (by simp) (by simp)
theorem RgAt.kslice (h : RgAt T hd w o j rb ks kv ov qs) : ∃ a cap, kv = .slice a ks.length cap ∧ ks.length ≤ cap ∧ cap ≤ 9223372036854775807 := slice_of_own h.krow
theorem RgAt.oslice (h : RgAt T hd w o j rb ks kv ov qs) : ∃ a cap, ov = .slice a qs.length cap ∧ qs.length ≤ cap ∧ cap ≤ 9223372036854775807 := slice_of_own h.orow
theorem own_some {e : TypeId} {v : Value} {n : Nat} {xs : List Value} (h : w.ownsRow 0 e 1 v n xs) (hp : 0 < n) : ∃ g cap, v = .slice (some ⟨g, 0, none⟩) n cap ∧ n ≤ cap ∧ cap ≤ 9223372036854775807 := by
  rcases h with ⟨h1, ⟨rfl, rfl⟩ | ⟨g, cap, cur, rfl, h3, h4, h5, h6, _⟩⟩
  · omega
  · exact ⟨g, cap, rfl, h5, h6⟩
theorem RgAt.kcell (h : RgAt T hd w o j rb ks kv ov qs) {i : Nat} (hi : i < ks.length) : ∃ g cap, kv = .slice (some ⟨g, 0, none⟩) ks.length cap ∧ ks.length ≤ cap ∧ cap ≤ 9223372036854775807 ∧ ∀ i, i < ks.length → w.cell? ⟨g, i, none⟩ = some (.int .u64 (ks.getD i 0)) := by
  obtain ⟨g, cap, e, h1, h2⟩ := own_some h.krow (by omega)
  refine ⟨g, cap, e, h1, h2, fun i hi => ?_⟩
  have hr := h.krow
  rw [e] at hr
  have := row_range uc_len hr (x := ks.getD i 0) (by rw [List.getD_eq_getElem?_getD, List.getElem?_eq_getElem hi]; rfl) 0 _ rfl
  simpa using this
theorem RgAt.ocell (h : RgAt T hd w o j rb ks kv ov qs) {i : Nat} {q : VB} (hi : qs[i]? = some q) : ∃ g cap, ov = .slice (some ⟨g, 0, none⟩) qs.length cap ∧ qs.length ≤ cap ∧ cap ≤ 9223372036854775807 ∧ w.cell? ⟨g, i, none⟩ = some q.1 := by
  have hlt := (List.getElem?_eq_some_iff.1 hi).1
  obtain ⟨g, cap, e, h1, h2⟩ := own_some h.orow (by omega)
  refine ⟨g, cap, e, h1, h2, ?_⟩
  have hr := h.orow
  rw [e] at hr
  have := row_range lc_len hr hi 0 _ rfl
  simpa using this
theorem set_hd (hd : List Value) (a b u : Value) : (hd ++ [a, b]).set hd.length u = hd ++ [u, b] := by simp
theorem set_hd1 (hd : List Value) (a b u : Value) : (hd ++ [a, b]).set (hd.length + 1) u = hd ++ [a, u] := by simp
theorem RgAt.addKey (h : RgAt T hd w o j rb ks kv ov qs) (hj0 : j ≠ 0) {x : Int} {ob : Obj} {w5 : World} {v' : Value} {p : Nat} (hp : p = hd.length)
    (hrow : w5.ownsRow 0 26 1 v' (ks ++ [x]).length (flat uc (ks ++ [x]))) (hg : (w.alloc ob).grownBy w5 kv.ownBlock) (hwh : ∀ k, v'.ownBlock = some k → kv.ownBlock = some k ∨ (w.alloc ob).heap.size ≤ k) :
    ∃ o', RgAt T hd (w5.setCell ⟨rb, p, none⟩ v') o' j rb (ks ++ [x]) v' ov qs ∧ Mv [j] w o (w5.setCell ⟨rb, p, none⟩ v') o' := by
  subst hp
  have m4 : Mv [] w o (w.alloc ob) (newTo o w 0) := Mv.of_below 0 (balloc (Below.refl _ _) _)
  have h4 := h.mv m4 (by simp) (by simp)
  generalize newTo o w 0 = o4 at *
  generalize w.alloc ob = w4 at *
  have m5 : Mv [j] w4 o4 w5 (newTo o4 w4 j) := Mv.of_turn j (turn_grown hg) (fun k hk _ => by
    have hk' : kv.ownBlock = some k := by simpa using hk
    rw [(h4.kown k hk').1]; simp)
  have hb5 : Blk w5 rb T (hd ++ [kv, ov]) := h4.blk.past' hg (fun e => (h4.kown rb e).2 rfl)
  have ho5 : w5.ownsRow 0 25 1 ov qs.length (flat lc qs) := ownsRow_block h4.orow (fun k hk => hg.block k (h4.orow.lt k hk).2 (fun e => h4.apart k e.symm hk))
  have hv' : ∀ k, v'.ownBlock = some k → newTo o4 w4 j k = j ∧ k ≠ rb ∧ ov.ownBlock ≠ some k := fun k hk => by
    rcases hwh k hk with e | e
    · exact ⟨by rw [newTo_old (h4.krow.lt k e).2]; exact (h4.kown k e).1, (h4.kown k e).2, h4.apart k e⟩
    · refine ⟨newTo_new e, fun r => ?_, fun r => ?_⟩
      · have := h4.blk.lt; omega
      · have := (h4.orow.lt k r).2; omega
  have m6 : Mv [j] w5 (newTo o4 w4 j) (w5.setCell ⟨rb, hd.length, none⟩ v') (newTo (newTo o4 w4 j) w5 0) := Mv.of_turn 0 (turn_grown (grown_setCell w5 rb hd.length v')) (fun k hk _ => by
    simp at hk
    subst hk
    rw [newTo_old h4.blk.lt, h4.own]; simp)
  have g6 := grown_setCell w5 rb hd.length v'
  have hold : ∀ k, k < w4.heap.size → newTo (newTo o4 w4 j) w5 0 k = o4 k := fun k hk => by rw [newTo_old (Nat.lt_of_lt_of_le hk hg.size), newTo_old hk]
  refine ⟨_, ⟨?_, ?_, ?_, ?_, ?_, ?_, ?_, ?_⟩, (m4.widen (by simp)).trans (m5.trans m6)⟩
  · have := hb5.set hd.length v'
    rw [set_hd] at this
    exact this
  · rw [hold rb h4.blk.lt]; exact h4.own
  · exact ownsRow_block hrow (fun k hk => g6.block k (hrow.lt k hk).2 (fun e => (hv' k hk).2.1 (Option.some.inj e)))
  · intro k hk
    exact ⟨by rw [newTo_old (hrow.lt k hk).2]; exact (hv' k hk).1, (hv' k hk).2.1⟩
  · exact ownsRow_block ho5 (fun k hk => g6.block k (ho5.lt k hk).2 (fun e => (h4.oown k hk).2 (Option.some.inj e)))
  · intro k hk
    exact ⟨by rw [hold k (h4.orow.lt k hk).2]; exact (h4.oown k hk).1, (h4.oown k hk).2⟩
  · exact fun k hk => (hv' k hk).2.2
  · intro q hq
    exact ((h4.olds q hq).mv m5 (by simp; omega)).mv m6 (by simp; omega)
theorem RgAt.addOld (h : RgAt T hd w o j rb ks kv ov qs) (hj0 : j ≠ 0) {q : VB} (hq : Kp0 w o q.1 q.2) {ob : Obj} {w5 : World} {v' : Value} {p : Nat} (hp : p = hd.length + 1)
    (hrow : w5.ownsRow 0 25 1 v' (qs ++ [q]).length (flat lc (qs ++ [q]))) (hg : (w.alloc ob).grownBy w5 ov.ownBlock) (hwh : ∀ k, v'.ownBlock = some k → ov.ownBlock = some k ∨ (w.alloc ob).heap.size ≤ k) :
    ∃ o', RgAt T hd (w5.setCell ⟨rb, p, none⟩ v') o' j rb ks kv v' (qs ++ [q]) ∧ Mv [j] w o (w5.setCell ⟨rb, p, none⟩ v') o' := by
  subst hp
  have m4 : Mv [] w o (w.alloc ob) (newTo o w 0) := Mv.of_below 0 (balloc (Below.refl _ _) _)
  have h4 := h.mv m4 (by simp) (by simp)
  have hq4 := hq.mv m4 (by simp)
  generalize newTo o w 0 = o4 at *
  generalize w.alloc ob = w4 at *
  have m5 : Mv [j] w4 o4 w5 (newTo o4 w4 j) := Mv.of_turn j (turn_grown hg) (fun k hk _ => by
    have hk' : ov.ownBlock = some k := by simpa using hk
    rw [(h4.oown k hk').1]; simp)
  have hb5 : Blk w5 rb T (hd ++ [kv, ov]) := h4.blk.past' hg (fun e => (h4.oown rb e).2 rfl)
  have hk5 : w5.ownsRow 0 26 1 kv ks.length (flat uc ks) := ownsRow_block h4.krow (fun k hk => hg.block k (h4.krow.lt k hk).2 (fun e => h4.apart k hk e.symm))
  have hv' : ∀ k, v'.ownBlock = some k → newTo o4 w4 j k = j ∧ k ≠ rb ∧ kv.ownBlock ≠ some k := fun k hk => by
    rcases hwh k hk with e | e
    · exact ⟨by rw [newTo_old (h4.orow.lt k e).2]; exact (h4.oown k e).1, (h4.oown k e).2, fun r => h4.apart k r e⟩
    · refine ⟨newTo_new e, fun r => ?_, fun r => ?_⟩
      · have := h4.blk.lt; omega
      · have := (h4.krow.lt k r).2; omega
  have m6 : Mv [j] w5 (newTo o4 w4 j) (w5.setCell ⟨rb, hd.length + 1, none⟩ v') (newTo (newTo o4 w4 j) w5 0) := Mv.of_turn 0 (turn_grown (grown_setCell w5 rb (hd.length + 1) v')) (fun k hk _ => by
    simp at hk
    subst hk
    rw [newTo_old h4.blk.lt, h4.own]; simp)
  have g6 := grown_setCell w5 rb (hd.length + 1) v'
  have hold : ∀ k, k < w4.heap.size → newTo (newTo o4 w4 j) w5 0 k = o4 k := fun k hk => by rw [newTo_old (Nat.lt_of_lt_of_le hk hg.size), newTo_old hk]
  refine ⟨_, ⟨?_, ?_, ?_, ?_, ?_, ?_, ?_, ?_⟩, (m4.widen (by simp)).trans (m5.trans m6)⟩
  · have := hb5.set (hd.length + 1) v'
    rw [set_hd1] at this
    exact this
  · rw [hold rb h4.blk.lt]; exact h4.own
  · exact ownsRow_block hk5 (fun k hk => g6.block k (hk5.lt k hk).2 (fun e => (h4.kown k hk).2 (Option.some.inj e)))
  · intro k hk
    exact ⟨by rw [hold k (h4.krow.lt k hk).2]; exact (h4.kown k hk).1, (h4.kown k hk).2⟩
  · exact ownsRow_block hrow (fun k hk => g6.block k (hrow.lt k hk).2 (fun e => (hv' k hk).2.1 (Option.some.inj e)))
  · intro k hk
    exact ⟨by rw [newTo_old (hrow.lt k hk).2]; exact (hv' k hk).1, (hv' k hk).2.1⟩
  · exact fun k hk r => (hv' k r).2.2 hk
  · intro x hx
    rcases List.mem_append.1 hx with e | e
    · exact ((h4.olds x e).mv m5 (by simp; omega)).mv m6 (by simp; omega)
    · simp at e
      subst e
      exact (hq4.mv m5 (by simp; omega)).mv m6 (by simp; omega)
theorem RgAt.setKey {g cap : Nat} (h : RgAt T hd w o j rb ks (.slice (some ⟨g, 0, none⟩) ks.length cap) ov qs) (hj0 : j ≠ 0) {i : Nat} (hi : i < ks.length) (x : Int) :
    RgAt T hd (w.setCell ⟨g, i, none⟩ (.int .u64 x)) (newTo o w 0) j rb (ks.set i x) (.slice (some ⟨g, 0, none⟩) (ks.set i x).length cap) ov qs ∧ Mv [j] w o (w.setCell ⟨g, i, none⟩ (.int .u64 x)) (newTo o w 0) := by
  have gg := grown_setCell w g i (.int .u64 x)
  have hog : o g = j ∧ g ≠ rb := h.kown g rfl
  have m : Mv [j] w o (w.setCell ⟨g, i, none⟩ (.int .u64 x)) (newTo o w 0) := Mv.of_turn 0 (turn_grown gg) (fun k hk _ => by
    simp at hk
    subst hk
    rw [hog.1]; simp)
  have hr := row_put uc_len h.krow hi rfl x
  have e1 : w.setCells g (i * 1) (uc x) = w.setCell ⟨g, i, none⟩ (.int .u64 x) := by simp [uc, World.setCells]
  rw [e1] at hr
  refine ⟨⟨by rw [List.length_set]; exact h.blk.past gg (fun e => hog.2 e.symm), ?_, ?_, ?_, ?_, ?_, ?_, fun q hq => (h.olds q hq).mv m (by simp; omega)⟩, m⟩
  · rw [m.ext rb h.blk.lt]; exact h.own
  · rw [List.length_set]; exact hr
  · intro k hk
    rw [m.ext k (h.krow.lt k hk).2]
    exact h.kown k hk
  · exact ownsRow_block h.orow (fun k hk => gg.block k (h.orow.lt k hk).2 (fun e => h.apart k e.symm hk))
  · intro k hk
    rw [m.ext k (h.orow.lt k hk).2]
    exact h.oown k hk
  · exact h.apart
end
theorem run_clear_olds {w : World} {g n cap : Nat} {qs : List VB} (h : w.ownsRow 0 25 1 (.slice (some ⟨g, 0, none⟩) n cap) n (flat lc qs)) (hn : qs.length = n) (hp : 0 < n) (ty : TypeId) :
    (Builtin.clear_ #[62] ty #[.slice (some ⟨g, 0, none⟩) n cap]).run Tryz.prog w = .ok (.tuple #[]) (w.setCells g 0 (flat lc (List.replicate n zq))) := by
  have hz : (Builtin.zeroCells (Value.slice none 0 0).cells n).toList = flat lc (List.replicate n zq) := by
    have h1 : (Builtin.zeroCells (Value.slice none 0 0).cells n).toList = List.replicate n (.slice none 0 0) := by
      apply List.ext_getElem
      · simp [Builtin.zeroCells, Value.cells]
      · intro i h1 h2
        simp [Builtin.zeroCells, Value.cells, Nat.mod_one]
    rw [h1]
    unfold flat lc zq
    clear h1 hp h hn
    induction n with
    | zero => rfl
    | succ n ih => rw [List.replicate_succ, ih, List.replicate_succ, List.flatMap_cons]; rfl
  have h1 : ∀ u ∈ flat lc (List.replicate n zq), u.oneCell' = true := flat_one fun q hq u hu => by
    have := List.eq_of_mem_replicate hq
    subst this
    simp [lc, zq] at hu
    subst hu
    rfl
  have hlen : (flat lc (List.replicate n zq)).length = n := by rw [flat_length lc_len]; simp
  have hcell : ∀ i, i < n → (w.cell? ⟨g, 0 + i, none⟩).isSome = true := fun i hi => by
    have h2 : i < (flat lc qs).length := by rw [flat_length lc_len]; omega
    have := h.cells (g := g) rfl i _ (List.getElem?_eq_getElem h2)
    rw [Addr.add_lit] at this
    rw [this]
    rfl
  have hst := run_storeCells_cells (P := Tryz.prog) g 0 (flat lc (List.replicate n zq)) 0 w (fun i hi => by rw [hlen] at hi; simpa using hcell i hi) (fun i hi => h.frozenAt _) h1
  simp only [Nat.add_zero] at hst
  obtain ⟨m, rfl⟩ : ∃ m, n = m + 1 := ⟨n - 1, by omega⟩
  simp [Builtin.clear_, run_underlying Tryz.underlying62, hz, hst]
theorem RgAt.strike {T : TypeId} {hd : List Value} {w : World} {o : Nat → Nat} {j rb : Nat} {ks : List Int} {kv : Value} {qs : List VB} {g cap : Nat} (h : RgAt T hd w o j rb ks kv (.slice (some ⟨g, 0, none⟩) qs.length cap) qs) (hj0 : j ≠ 0) :
    RgAt T hd (w.setCells g 0 (flat lc (List.replicate qs.length zq))) (newTo o w 0) j rb ks kv (.slice (some ⟨g, 0, none⟩) qs.length cap) (List.replicate qs.length zq) ∧ Mv [j] w o (w.setCells g 0 (flat lc (List.replicate qs.length zq))) (newTo o w 0) := by
  have gg := grown_setCells g (flat lc (List.replicate qs.length zq)) 0 w
  have hog : o g = j ∧ g ≠ rb := h.oown g rfl
  have m : Mv [j] w o (w.setCells g 0 (flat lc (List.replicate qs.length zq))) (newTo o w 0) := Mv.of_turn 0 (turn_grown gg) (fun k hk _ => by
    simp at hk
    subst hk
    rw [hog.1]; simp)
  have hr := row_copied lc_len h.orow (qs := List.replicate qs.length zq) (by simp)
  refine ⟨⟨h.blk.past gg (fun e => hog.2 e.symm), ?_, ?_, ?_, ?_, ?_, ?_, fun q hq => ?_⟩, m⟩
  · rw [m.ext rb h.blk.lt]; exact h.own
  · exact ownsRow_block h.krow (fun k hk => gg.block k (h.krow.lt k hk).2 (fun e => h.apart k hk e.symm))
  · intro k hk
    rw [m.ext k (h.krow.lt k hk).2]
    exact h.kown k hk
  · rw [List.length_replicate]; exact hr
  · intro k hk
    rw [m.ext k (h.orow.lt k hk).2]
    exact h.oown k hk
  · exact h.apart
  · have := List.eq_of_mem_replicate hq
    subst this
    exact kp0_nil _ _
def RIs (w : World) (o : Nat → Nat) (j rb ob : Nat) (r : Rg) : Prop := ∃ kv ov qs, RgAt 114 [ptr ob, .int .i64 r.w, .int .u64 r.s] w o j rb r.ks kv ov qs ∧ qs.map (·.2) = r.os ∧ r.os.length = r.ks.length ∧ r.ks.length ≤ 20
def RRIs (w : World) (o : Nat → Nat) (j rb : Nat) (r : Rg) : Prop := ∃ kv ov qs, RgAt 64 [.int .i64 r.w, .int .u64 r.s] w o j rb r.ks kv ov qs ∧ qs.map (·.2) = r.os ∧ r.os.length = r.ks.length ∧ r.ks.length ≤ 20
theorem RIs.mv {I : List Nat} {w w' : World} {o o' : Nat → Nat} {j rb ob : Nat} {r : Rg} (h : RIs w o j rb ob r) (m : Mv I w o w' o') (h0 : 0 ∉ I) (hj : j ∉ I) : RIs w' o' j rb ob r := by
  obtain ⟨kv, ov, qs, h, hr⟩ := h
  exact ⟨kv, ov, qs, h.mv m h0 hj, hr⟩
theorem RRIs.mv {I : List Nat} {w w' : World} {o o' : Nat → Nat} {j rb : Nat} {r : Rg} (h : RRIs w o j rb r) (m : Mv I w o w' o') (h0 : 0 ∉ I) (hj : j ∉ I) : RRIs w' o' j rb r := by
  obtain ⟨kv, ov, qs, h, hr⟩ := h
  exact ⟨kv, ov, qs, h.mv m h0 hj, hr⟩
theorem rg_new {T : TypeId} {w : World} {o : Nat → Nat} (j : Nat) (hd : List Value) : RgAt T hd (w.alloc (.cells (hd ++ [Value.slice none 0 0, Value.slice none 0 0]).toArray T)) (newTo o w j) j w.heap.size [] (.slice none 0 0) (.slice none 0 0) [] :=
  ⟨blk_new w _ T, newTo_new (Nat.le_refl _), World.ownsRow_nil _ _ _ _, (fun k hk => by cases hk), World.ownsRow_nil _ _ _ _, (fun k hk => by cases hk), (fun k hk => by cases hk), (fun q hq => by cases hq)⟩
theorem ring_new {w : World} {o : Nat → Nat} (j ob : Nat) (who sec : Int) : RIs (w.alloc (.cells #[ptr ob, .int .i64 who, .int .u64 sec, .slice none 0 0, .slice none 0 0] 114)) (newTo o w j) j w.heap.size ob ⟨who, sec, [], []⟩ :=
  ⟨_, _, [], rg_new j [ptr ob, .int .i64 who, .int .u64 sec], rfl, rfl, by simp⟩
theorem rring_new {w : World} {o : Nat → Nat} (j : Nat) (who sec : Int) : RRIs (w.alloc (.cells #[.int .i64 who, .int .u64 sec, .slice none 0 0, .slice none 0 0] 64)) (newTo o w j) j w.heap.size ⟨who, sec, [], []⟩ :=
  ⟨_, _, [], rg_new j [.int .i64 who, .int .u64 sec], rfl, rfl, by simp⟩
/-! ### New, Who, Count, Key -/
theorem new23 (w : World) (o : Nat → Nat) (j ob : Nat) (who sec : Int) (h0 : 0 ≤ who) (h7 : who < 8) :
    Calls Tryz.prog 23 #[ptr ob, .int .i64 who, .int .u64 sec] w fun r w' => r = .returned (.tuple #[ptr w.heap.size, .int .i64 0]) ∧ RIs w' (newTo o w j) j w.heap.size ob ⟨who, sec, [], []⟩ ∧ Below w.heap.size w w' := by
  have HL : Hid (RIs (w.alloc (.cells #[ptr ob, .int .i64 who, .int .u64 sec, .slice none 0 0, .slice none 0 0] 114)) (newTo o w j) j w.heap.size ob ⟨who, sec, [], []⟩) := ring_new j ob who sec
  have h1 : ¬ who < 0 := by omega
  have h2 : ¬ 8 ≤ who := by omega
  clear h0 h7
  go_enter Tryz.func23, Tryz.ntmps23
  go_wp2
  go_ret2
  exact ⟨rfl, HL.out, balloc (Below.refl _ _) _⟩
theorem key11_nil (w : World) (e : Int) : Calls Tryz.prog 34 #[.pointer none, .int .i64 e] w fun r w' => r = .returned (.tuple #[.int .u64 0, .int .i64 23]) ∧ w' = w := by
  go_enter Tryz.func34, Tryz.ntmps34
  go_wp2
  go_ret2
  exact ⟨rfl, rfl⟩
def keyM (ks : List Int) (e : Int) : Int × Int := if e < 0 ∨ (ks.length : Int) ≤ e then (0, 2) else if ks.getD e.toNat 0 = 0 then (0, 11) else (ks.getD e.toNat 0, 0)
theorem key11 {w : World} {o : Nat → Nat} {j rb ob : Nat} {r : Rg} (h : RIs w o j rb ob r) (e : Int) : Calls Tryz.prog 34 #[ptr rb, .int .i64 e] w fun x w' => x = .returned (.tuple #[.int .u64 (keyM r.ks e).1, .int .i64 (keyM r.ks e).2]) ∧ w' = w := by
  obtain ⟨kv, ov, qs, hA, _, _, hf⟩ := h
  obtain ⟨rw', rs, ks, ro⟩ := r
  dsimp only at hA hf ⊢
  obtain ⟨n, hn⟩ : ∃ n, n = ks.length := ⟨_, rfl⟩
  unfold keyM
  by_cases h0 : e < 0
  · rw [if_pos (.inl h0)]
    clear hA
    go_enter Tryz.func34, Tryz.ntmps34
    go_wp2
    go_ret2
    exact ⟨rfl, rfl⟩
  · obtain ⟨i, rfl⟩ : ∃ i : Nat, e = i := ⟨e.toNat, by omega⟩
    by_cases hi : i < ks.length
    · obtain ⟨g, cap, rfl, h1, h2, hc⟩ := hA.kcell hi
      have c3 := hA.blk.cell 3 _ rfl
      have hci := hc i hi
      rw [if_neg (by omega), Int.toNat_natCast]
      generalize ks.getD i 0 = x at *
      rw [← hn] at c3 h1 hi hf
      clear hA hn hc h0
      by_cases hx : x = 0
      · rw [if_pos hx]
        subst hx
        go_enter Tryz.func34, Tryz.ntmps34
        go_wp2
        go_ret2
        exact ⟨rfl, rfl⟩
      · rw [if_neg hx]
        have hx2 : (x == 0) = false := by simpa using hx
        clear hx
        go_enter Tryz.func34, Tryz.ntmps34
        go_wp2
        go_ret2
        exact ⟨rfl, rfl⟩
    · obtain ⟨av, cap, rfl, h1, h2⟩ := hA.kslice
      have c3 := hA.blk.cell 3 _ rfl
      rw [if_pos (.inr (by omega))]
      rw [← hn] at c3 h1 hi hf
      clear hA hn h0
      go_enter Tryz.func34, Tryz.ntmps34
      go_wp2
      go_ret2
      exact ⟨rfl, rfl⟩
theorem rkey12 {w : World} {o : Nat → Nat} {j rb : Nat} {r : Rg} (h : RRIs w o j rb r) (e : Int) : Calls Tryz.prog 36 #[ptr rb, .int .i64 e] w fun x w' => x = .returned (.tuple #[.int .u64 (keyM r.ks e).1, .int .i64 (keyM r.ks e).2]) ∧ w' = w := by
  obtain ⟨kv, ov, qs, hA, _, _, hf⟩ := h
  obtain ⟨rw', rs, ks, ro⟩ := r
  dsimp only at hA hf ⊢
  obtain ⟨n, hn⟩ : ∃ n, n = ks.length := ⟨_, rfl⟩
  unfold keyM
  by_cases h0 : e < 0
  · rw [if_pos (.inl h0)]
    clear hA
    go_enter Tryz.func36, Tryz.ntmps36
    go_wp2
    go_ret2
    exact ⟨rfl, rfl⟩
  · obtain ⟨i, rfl⟩ : ∃ i : Nat, e = i := ⟨e.toNat, by omega⟩
    by_cases hi : i < ks.length
    · obtain ⟨g, cap, rfl, h1, h2, hc⟩ := hA.kcell hi
      have c2 := hA.blk.cell 2 _ rfl
      have hci := hc i hi
      rw [if_neg (by omega), Int.toNat_natCast]
      generalize ks.getD i 0 = x at *
      rw [← hn] at c2 h1 hi hf
      clear hA hn hc h0
      by_cases hx : x = 0
      · rw [if_pos hx]
        subst hx
        go_enter Tryz.func36, Tryz.ntmps36
        go_wp2
        go_ret2
        exact ⟨rfl, rfl⟩
      · rw [if_neg hx]
        have hx2 : (x == 0) = false := by simpa using hx
        clear hx
        go_enter Tryz.func36, Tryz.ntmps36
        go_wp2
        go_ret2
        exact ⟨rfl, rfl⟩
    · obtain ⟨av, cap, rfl, h1, h2⟩ := hA.kslice
      have c2 := hA.blk.cell 2 _ rfl
      rw [if_pos (.inr (by omega))]
      rw [← hn] at c2 h1 hi hf
      clear hA hn h0
      go_enter Tryz.func36, Tryz.ntmps36
      go_wp2
      go_ret2
      exact ⟨rfl, rfl⟩
end Go.Proofs.YtjbpfhnagiacmaaGreat
