/-
  The reference's log: Cut.
  The reference's Cut: of nothing, and of all.
  slices.Delete of a row's end: the row is shorter, what was there is cleared.
  The program's Cut.
  The reference's Cut: of an empty log, and of any.
  Program and reference, two logs each, in one game: what each call answers and leaves.
-/
import Derived.Test.YteedjdflojfhmaaBoth
import Derived.Test.YteedjdflojfhmaaCopied
import Derived.Laws.IdiomCopy
import Derived.Lib.SliceRun
import Derived.Test.YteedjdflojfhmaaDuo
namespace Go.Proofs.Yteedjdflojfhmaa
section
set_option linter.unusedVariables false
set_option linter.unusedSimpArgs false
set_option synthInstance.maxSize 20000
set_option maxHeartbeats 2000000
set_option maxRecDepth 20000
open Go.RowKit Go.Maps

theorem crow_none (w : World) : (w.alloc (.cells #[] 47)).ownsRow 0 47 8 (.slice (some ⟨w.heap.size, 0, none⟩) 0 0) ([] : List (Ent × Value)).length (flatE []) :=
  ⟨rfl, .inr ⟨w.heap.size, 0, #[], rfl, Nat.zero_le _, heap_alloc_new w _, Nat.le_refl _, Nat.zero_le _, rfl, rfl⟩⟩
/-- The end of a row, as a row. -/
theorem rowE_drop {w : World} {b off n cap k : Nat} {ps : List (Ent × Value)} (h : RowE w (.slice (some ⟨b, off, none⟩) n cap) ps) (hk : k ≤ ps.length) : RowE w (.slice (some ⟨b, off + k * 8, none⟩) (ps.length - k) (cap - k)) (ps.drop k) := by
  obtain ⟨a, c, e, h1, h2, h3, h4⟩ := h
  cases e
  refine ⟨_, _, by rw [List.length_drop], by rw [List.length_drop]; omega, by omega, (fun h => by cases h), fun hp => ⟨b, off + k * 8, rfl, fun j u hj => ?_⟩⟩
  rw [List.length_drop] at hp
  obtain ⟨b', off', e, hc⟩ := h4 (by omega)
  cases e
  rw [← flatE_drop, List.getElem?_drop] at hj
  have := hc _ _ hj
  rwa [← Nat.add_assoc] at this

theorem rowE_drop' {w : World} {b off n cap k : Nat} {ps : List (Ent × Value)} (h : RowE w (.slice (some ⟨b, off, none⟩) n cap) ps) (hk : k ≤ ps.length) : RowE w (.slice (if cap = k then some ⟨b, off, none⟩ else some ⟨b, off + k * 8, none⟩) (ps.length - k) (cap - k)) (ps.drop k) := by
  by_cases c : cap = k
  · rw [if_pos c]
    have hc := h.cap
    have : ps.drop k = [] := by rw [List.drop_eq_nil_iff]; omega
    rw [this]
    have e1 : ps.length - k = 0 := by omega
    have e2 : cap - k = 0 := by omega
    rw [e1, e2]
    exact ⟨_, _, rfl, Nat.le_refl _, Nat.zero_le _, (fun h => by cases h), fun h => by simp at h⟩
  · rw [if_neg c]
    exact rowE_drop h hk

theorem rcut_end {w w6 : World} {o : Nat → Nat} {j lx : Nat} {W p : Int} {es : List Ent} {a : Option Addr} {cv' kk : Nat} {ps : List (Ent × Value)} {v2 : Value} (hA : RLogAt w o j lx W p es (.slice a ps.length cv') ps) (hj0 : j ≠ 0) (hk : kk ≤ ps.length) (hrow : w6.ownsRow 0 47 8 v2 (ps.drop kk).length (flatE (ps.drop kk))) (hg : (w.alloc (.cells #[] 47)).grownBy w6 (some w.heap.size)) (hwh : ∀ k, v2.ownBlock = some k → some w.heap.size = some k ∨ (w.alloc (.cells #[] 47)).heap.size ≤ k) :
    Blk w6 lx 42 [.int .i64 W, .int .u64 p, .slice a ps.length cv'] ∧ ∃ qs o', qs.map (·.1) = es.drop kk ∧ RowE (w6.setCell ⟨lx, 2, none⟩ (.slice a kk kk)) v2 qs ∧ Ents (w6.setCell ⟨lx, 2, none⟩ (.slice a kk kk)) o' qs ∧ RLogIs (w6.setCell ⟨lx, 2, none⟩ (.slice a kk kk)) o' j lx W p (es.take kk) ∧ Mv [j] w o (w6.setCell ⟨lx, 2, none⟩ (.slice a kk kk)) o' := by
  have hb : Below w.heap.size w w6 := bgrown (balloc (Below.refl _ _) _) (Nat.le_refl _) hg
  have m : Mv [] w o w6 (newTo o w 0) := Mv.of_below 0 hb
  have hA6 := hA.mv m (by simp) (by simp)
  have hl := hA.blk.lt
  have hE6 := hA6.ents
  generalize newTo o w 0 = o6 at *
  have G := grown_setCell w6 lx 2 (.slice a kk kk)
  have m2 : Mv [j] w6 o6 (w6.setCell ⟨lx, 2, none⟩ (.slice a kk kk)) o6 := ⟨G.os, G.tape, G.output, G.size, fun _ _ => rfl, fun k hk hn => G.block k hk (fun e => hn (by have := Option.some.inj e; subst this; rw [hA6.own]; simp))⟩
  have hcut := hA6.row.cut hk
  have hlt : (ps.take kk).length = kk := by rw [List.length_take]; omega
  have hob : ∀ k, (Value.slice a kk kk).ownBlock = some k → (Value.slice a ps.length cv').ownBlock = some k := fun k hk => by
    cases a with
    | none => cases hk
    | some ad => exact hk
  refine ⟨hA6.blk, ps.drop kk, o6, by rw [← hA.es, List.map_drop], (rowE_own hrow).blocks (fun k hk _ => G.block k (hrow.lt k hk).2 (fun e => ?_)), (hE6.drop kk).mv m2 (by simp; omega), ⟨.slice a kk kk, ps.take kk, hA6.blk.set 2 _, hA6.own, ?_, fun k hk => hA6.rowOwn k (hob k hk), (hE6.take kk).mv m2 (by simp; omega), by rw [List.map_take, hA.es], by rw [hlt]; have := hA.few; omega, hA.hp, hA.hW⟩, (m.widen (by simp)).trans m2⟩
  · have := Option.some.inj e
    rcases hwh k hk with r | r
    · have := Option.some.inj r
      omega
    · simp at r
      omega
  · exact hcut.blocks (fun k hk' => G.block k (hcut.lt k hk') (fun e => (hA6.rowOwn k (hob k hk')).2 (Option.some.inj e)))

/-- What Cut leaves: the end is handed out, the log is what was ahead of it. -/
def CutTo (w : World) (o : Nat → Nat) (w' : World) (j lx : Nat) (W p : Int) (es : List Ent) (v2 : Value) (kk : Nat) : Prop := ∃ qs o', qs.map (·.1) = es.drop kk ∧ RowE w' v2 qs ∧ Ents w' o' qs ∧ RLogIs w' o' j lx W p (es.take kk) ∧ Mv [j] w o w' o'

theorem rcut_some {w : World} {o : Nat → Nat} {j lx : Nat} {W p : Int} {es : List Ent} (hL : RLogIs w o j lx W p es) (hj0 : j ≠ 0) (n : Int) (kk : Nat) (h0 : ¬ n < 0) (hn : n = kk) (hk : kk ≤ es.length) (hpos : 0 < es.length) :
    Calls Try.prog 17 #[ptr lx, .int .i64 n] w fun q w' => ∃ v2, q = .returned v2 ∧ CutTo w o w' j lx W p es v2 kk := by
  obtain ⟨v, ps, hA⟩ := hL
  have hlen := hA.len
  obtain ⟨av, cv', rfl, hcv1, hcv2, _⟩ := hA.row.slice
  subst hn
  have HA : Hid (RLogAt w o j lx W p es (.slice av ps.length cv') ps) := hA
  have hkp : kk ≤ ps.length := by omega
  have hkp1 : (kk : Int) ≤ ps.length := by omega
  have hkp2 : ¬ (ps.length : Int) < kk := by omega
  unfold maxLen at hcv2
  have hk0 : (0 : Int) ≤ kk := by omega
  obtain ⟨q0, hq0⟩ : ∃ q0, ps[0]? = some q0 := ⟨_, List.getElem?_eq_getElem (by omega)⟩
  obtain ⟨g, off, hav, _⟩ := (rowE_c hA.row).at hq0
  subst hav
  have b2 := hA.blk.cell 2 _ rfl
  have b2' := (hA.blk.alloc (.cells #[] 47)).cell 2 _ rfl
  have HR0 := crow_none w
  have HRx : Hid (RowE (w.alloc (.cells #[] 47)) (.slice (if cv' = kk then some ⟨g, off, none⟩ else some ⟨g, off + kk * 8, none⟩) (ps.length - kk) (cv' - kk)) (ps.drop kk)) := (show RowE _ _ _ from (rowE_drop' (rowE_c hA.row) hkp).below (balloc (Below.refl _ _) _))
  have HOne : Hid (∀ u ∈ flatE (ps.drop kk), u.oneCell' = true) := (hA.ents.drop kk).one
  have HPs : Hid (ps.length ≤ 200) := hA.few
  have HJ : Hid (j ≠ 0) := hj0
  clear hA hq0 hlen hk hpos hj0
  go_enter Try.func17, Try.ntmps17
  go_upto_region 3 with (at_builtin; go_must (refine wpList_append_ents rfl (.tmp 14) (.tmp 20) rfl (.slice (some ⟨w.heap.size, 0, none⟩) 0 0) [] rfl HR0 _ (ps.drop kk) rfl HRx.out HOne.out (by have := HPs.out; simp; omega) ?_; intro v2 w6 hrow hg hwh; rw [List.nil_append] at hrow; have HEnd := rcut_end HA.out HJ.out hkp hrow hg hwh; obtain ⟨va2, vc2, hv2, hv2b, hv2c⟩ := slice_of_own hrow; subst hv2; have B6 := HEnd.1; have c2 := B6.cell 2 _ rfl; have f2 := B6.frozen 2; have HEnd' : Hid (CutTo w o (w6.setCell ⟨lx, 2, none⟩ (.slice (some ⟨g, off, none⟩) kk kk)) j lx W p es (.slice va2 (ps.drop kk).length vc2) kk) := HEnd.2; clear B6 HEnd hrow hg hwh; generalize (ps.drop kk).length = nd at *))
  all_goals go_wp2
  all_goals
    go_ret
    have HE2 := HEnd'.out
    exact ⟨_, rfl, HE2⟩
end

section
set_option linter.unusedVariables false
set_option linter.unusedSimpArgs false
set_option synthInstance.maxSize 20000
set_option maxHeartbeats 2000000
set_option maxRecDepth 20000
open Go.RowKit Go.Maps

theorem rcut_neg {w : World} {o : Nat → Nat} {j lx : Nat} {W p : Int} {es : List Ent} (hL : RLogIs w o j lx W p es) (hj0 : j ≠ 0) (n : Int) (h0 : n < 0) (hpos : 0 < es.length) :
    Calls Try.prog 17 #[ptr lx, .int .i64 n] w fun q w' => ∃ v2, q = .returned v2 ∧ CutTo w o w' j lx W p es v2 0 := by
  obtain ⟨v, ps, hA⟩ := hL
  have hlen := hA.len
  obtain ⟨av, cv', rfl, hcv1, hcv2, _⟩ := hA.row.slice
  have HA : Hid (RLogAt w o j lx W p es (.slice av ps.length cv') ps) := hA
  have hkp : 0 ≤ ps.length := by omega
  have hkp1 : (0 : Int) ≤ ps.length := by omega
  have hkp3 : (0 : Int) < ps.length := by omega
  unfold maxLen at hcv2
  obtain ⟨q0, hq0⟩ : ∃ q0, ps[0]? = some q0 := ⟨_, List.getElem?_eq_getElem (by omega)⟩
  obtain ⟨g, off, hav, _⟩ := (rowE_c hA.row).at hq0
  subst hav
  have b2 := hA.blk.cell 2 _ rfl
  have b2' := (hA.blk.alloc (.cells #[] 47)).cell 2 _ rfl
  have HR0 := crow_none w
  have HRx : Hid (RowE (w.alloc (.cells #[] 47)) (.slice (some ⟨g, off, none⟩) ps.length cv') (ps.drop 0)) := (show RowE _ _ _ from (rowE_c hA.row).below (balloc (Below.refl _ _) _))
  have HOne : Hid (∀ u ∈ flatE (ps.drop 0), u.oneCell' = true) := (hA.ents.drop 0).one
  have HPs : Hid (ps.length ≤ 200) := hA.few
  have HJ : Hid (j ≠ 0) := hj0
  clear hA hq0 hlen hpos hj0
  go_enter Try.func17, Try.ntmps17
  go_upto_region 3 with (at_builtin; go_must (refine wpList_append_ents rfl (.tmp 14) (.tmp 20) rfl (.slice (some ⟨w.heap.size, 0, none⟩) 0 0) [] rfl HR0 _ (ps.drop 0) rfl HRx.out HOne.out (by have := HPs.out; simp; omega) ?_; intro v2 w6 hrow hg hwh; rw [List.nil_append] at hrow; have HEnd := rcut_end HA.out HJ.out (kk := 0) hkp hrow hg hwh; obtain ⟨va2, vc2, hv2, hv2b, hv2c⟩ := slice_of_own hrow; subst hv2; have B6 := HEnd.1; have c2 := B6.cell 2 _ rfl; have f2 := B6.frozen 2; have HEnd' : Hid (CutTo w o (w6.setCell ⟨lx, 2, none⟩ (.slice (some ⟨g, off, none⟩) 0 0)) j lx W p es (.slice va2 (ps.drop 0).length vc2) 0) := HEnd.2; clear B6 HEnd hrow hg hwh; generalize (ps.drop 0).length = nd at *))
  all_goals go_wp2
  all_goals
    go_ret
    have HE2 := HEnd'.out
    exact ⟨_, rfl, HE2⟩

theorem rowE_drop0 {w : World} {b off n cap : Nat} {ps : List (Ent × Value)} (h : RowE w (.slice (some ⟨b, off, none⟩) n cap) ps) : RowE w (.slice (if cap = ps.length then some ⟨b, off, none⟩ else some ⟨b, off + ps.length * 8, none⟩) 0 (cap - ps.length)) (ps.drop ps.length) := by
  have := rowE_drop' h (Nat.le_refl ps.length)
  rwa [Nat.sub_self] at this

theorem rcut_big {w : World} {o : Nat → Nat} {j lx : Nat} {W p : Int} {es : List Ent} (hL : RLogIs w o j lx W p es) (hj0 : j ≠ 0) (n : Int) (hbig : (es.length : Int) < n) (hpos : 0 < es.length) :
    Calls Try.prog 17 #[ptr lx, .int .i64 n] w fun q w' => ∃ v2, q = .returned v2 ∧ CutTo w o w' j lx W p es v2 es.length := by
  obtain ⟨v, ps, hA⟩ := hL
  have hlen := hA.len
  obtain ⟨av, cv', rfl, hcv1, hcv2, _⟩ := hA.row.slice
  have HA : Hid (RLogAt w o j lx W p es (.slice av ps.length cv') ps) := hA
  have hkp : ps.length ≤ ps.length := Nat.le_refl _
  have hkp1 : ¬ n < 0 := by omega
  have hkp2 : (ps.length : Int) < n := by omega
  have hkp3 : ¬ n ≤ (ps.length : Int) := by omega
  unfold maxLen at hcv2
  clear hbig
  obtain ⟨q0, hq0⟩ : ∃ q0, ps[0]? = some q0 := ⟨_, List.getElem?_eq_getElem (by omega)⟩
  obtain ⟨g, off, hav, _⟩ := (rowE_c hA.row).at hq0
  subst hav
  have b2 := hA.blk.cell 2 _ rfl
  have b2' := (hA.blk.alloc (.cells #[] 47)).cell 2 _ rfl
  have HR0 := crow_none w
  have HRx : Hid (RowE (w.alloc (.cells #[] 47)) (.slice (if cv' = ps.length then some ⟨g, off, none⟩ else some ⟨g, off + ps.length * 8, none⟩) 0 (cv' - ps.length)) (ps.drop ps.length)) := (show RowE _ _ _ from (rowE_drop0 (rowE_c hA.row)).below (balloc (Below.refl _ _) _))
  have HOne : Hid (∀ u ∈ flatE (ps.drop ps.length), u.oneCell' = true) := (hA.ents.drop ps.length).one
  have HPs : Hid (ps.length ≤ 200) := hA.few
  have HJ : Hid (j ≠ 0) := hj0
  have HLen : Hid (es.length = ps.length) := hlen
  clear hA hq0 hlen hpos hj0
  go_enter Try.func17, Try.ntmps17
  go_upto_region 3 with (at_builtin; go_must (refine wpList_append_ents rfl (.tmp 14) (.tmp 20) rfl (.slice (some ⟨w.heap.size, 0, none⟩) 0 0) [] rfl HR0 _ (ps.drop ps.length) rfl HRx.out HOne.out (by simp) ?_; intro v2 w6 hrow hg hwh; rw [List.nil_append] at hrow; have HEnd := rcut_end HA.out HJ.out (kk := ps.length) hkp hrow hg hwh; obtain ⟨va2, vc2, hv2, hv2b, hv2c⟩ := slice_of_own hrow; subst hv2; have B6 := HEnd.1; have c2 := B6.cell 2 _ rfl; have f2 := B6.frozen 2; have HEnd' : Hid (CutTo w o (w6.setCell ⟨lx, 2, none⟩ (.slice (some ⟨g, off, none⟩) ps.length ps.length)) j lx W p es (.slice va2 (ps.drop ps.length).length vc2) ps.length) := HEnd.2; clear B6 HEnd hrow hg hwh; generalize (ps.drop ps.length).length = nd at *))
  all_goals go_wp2
  all_goals
    go_ret
    have HE2 := HEnd'.out
    rw [HLen.out]
    exact ⟨_, rfl, HE2⟩

theorem rcut_nil_end {w w6 : World} {o : Nat → Nat} {j lx : Nat} {W p : Int} {v v2 v3 : Value} (hA : RLogAt w o j lx W p [] v []) (hj0 : j ≠ 0) (hb : Below w.heap.size w w6) (hrow : w6.ownsRow 0 47 8 v2 0 (flatE [])) (hwh : ∀ k, v2.ownBlock = some k → w.heap.size ≤ k) (h3 : OwnC w v3 0 (flatE [])) (hob : ∀ k, v3.ownBlock = some k → v.ownBlock = some k) :
    CutTo w o (w6.setCell ⟨lx, 2, none⟩ v3) j lx W p [] v2 0 := by
  have m : Mv [] w o w6 (newTo o w 0) := Mv.of_below 0 hb
  have hA6 := hA.mv m (by simp) (by simp)
  have hl := hA.blk.lt
  have h36 : OwnC w6 v3 0 (flatE []) := h3.blocks (fun k hk => hb.block k (h3.lt k hk))
  generalize newTo o w 0 = o6 at *
  have G := grown_setCell w6 lx 2 v3
  have m2 : Mv [j] w6 o6 (w6.setCell ⟨lx, 2, none⟩ v3) o6 := ⟨G.os, G.tape, G.output, G.size, fun _ _ => rfl, fun k hk hn => G.block k hk (fun e => hn (by have := Option.some.inj e; subst this; rw [hA6.own]; simp))⟩
  refine ⟨[], o6, rfl, (rowE_own (ps := []) hrow).blocks (fun k hk _ => G.block k (hrow.lt k hk).2 (fun e => ?_)), Ents.nil _ _, ⟨v3, [], hA6.blk.set 2 _, hA6.own, ?_, fun k hk => hA6.rowOwn k (hob k hk), Ents.nil _ _, rfl, by simp, hA.hp, hA.hW⟩, (m.widen (by simp)).trans m2⟩
  · have := Option.some.inj e
    have := hwh k hk
    omega
  · exact h36.blocks (fun k hk' => G.block k (h36.lt k hk') (fun e => (hA6.rowOwn k (hob k hk')).2 (Option.some.inj e)))
end

section
set_option linter.unusedVariables false
set_option linter.unusedSimpArgs false
set_option synthInstance.maxSize 20000
set_option maxHeartbeats 2000000
set_option maxRecDepth 20000
open Go.RowKit Go.Maps

/-- A run of stores into a block. -/
theorem Blk.sets {b : Nat} {e : TypeId} : ∀ (us : List Value) (o : Nat) (w : World) (vs : List Value), Blk w b e vs → o + us.length ≤ vs.length → ∃ vs', Blk (w.setCells b o us) b e vs' ∧ vs'.length = vs.length ∧ vs'.take o = vs.take o ∧ w.grownBy (w.setCells b o us) (some b)
  | [], o, w, vs, h, _ => ⟨vs, h, rfl, rfl, grown_refl _ _⟩
  | u :: us, o, w, vs, h, hl => by
    simp only [List.length_cons] at hl
    obtain ⟨vs', h1, h2, h3, h4⟩ := Blk.sets us (o + 1) (w.setCell ⟨b, o, none⟩ u) (vs.set o u) (h.set o u) (by simp; omega)
    refine ⟨vs', h1, by simpa using h2, ?_, grown_trans (grown_setCell w b o u) h4 (fun k hk => .inl hk)⟩
    have e1 : vs'.take o = (vs'.take (o + 1)).take o := by rw [List.take_take, Nat.min_eq_left (by omega)]
    rw [e1, h3, List.take_take, Nat.min_eq_left (by omega), List.take_set_of_le (Nat.le_refl _)]

/-- 'clear(s)' of some of a row. -/
theorem run_clear8 {w : World} (g off n c : Nat) (vs : List Value) (hb : Blk w g 47 vs) (hn : 0 < n) (hl : off + n * 8 ≤ vs.length) :
    ∃ w' vs', (∀ ty, (Builtin.clear_ #[40] ty #[.slice (some ⟨g, off, none⟩) n c]).run Try.prog w = .ok (.tuple #[]) w') ∧ Blk w' g 47 vs' ∧ vs'.length = vs.length ∧ vs'.take off = vs.take off ∧ w.grownBy w' (some g) := by
  have hz : (Builtin.zeroCells (Value.agg #[.int .i64 0, .int .i64 0, .int .u64 0, .int .i64 0, .int .i64 0, .int .i64 0, .slice none 0 0, .int .u64 0]).cells n).toList.length = n * 8 := by simp [Builtin.zeroCells, Value.cells]
  have h1 : ∀ v ∈ (Builtin.zeroCells (Value.agg #[.int .i64 0, .int .i64 0, .int .u64 0, .int .i64 0, .int .i64 0, .int .i64 0, .slice none 0 0, .int .u64 0]).cells n).toList, v.oneCell' = true := fun v hv => by
    simp [Builtin.zeroCells, Value.cells] at hv
    obtain ⟨i, hi, rfl⟩ := hv
    have hm : i % 8 < 8 := Nat.mod_lt _ (by omega)
    generalize i % 8 = m at hm
    match m, hm with
    | 0, _ => rfl
    | 1, _ => rfl
    | 2, _ => rfl
    | 3, _ => rfl
    | 4, _ => rfl
    | 5, _ => rfl
    | 6, _ => rfl
    | 7, _ => rfl
  have hcell : ∀ j, j < n * 8 → (w.cell? ⟨g, off + j, none⟩).isSome = true := fun j hj => by
    rw [hb.cell (off + j) _ (List.getElem?_eq_getElem (by omega))]
    rfl
  have hst := run_storeCells_cells (P := Try.prog) g off _ 0 w (fun j hj => by rw [hz] at hj; simpa using hcell j hj) (fun j hj => by simpa using hb.frozen (off + j)) h1
  simp only [Nat.add_zero] at hst
  obtain ⟨vs', q1, q2, q3, q4⟩ := Blk.sets _ off w vs hb (by rw [hz]; exact hl)
  obtain ⟨m, rfl⟩ : ∃ m, n = m + 1 := ⟨n - 1, by omega⟩
  refine ⟨_, vs', fun ty => ?_, q1, q2, q3, q4⟩
  simp [Builtin.clear_, run_underlying Try.underlying40, hst]

theorem run_append_zero (w : World) (ty : TypeId) (a b : Addr) (n c c' : Nat) (hn : n ≤ c) : (Builtin.append_ #[40, 40] ty #[.slice (some a) n c, .slice (some b) 0 c']).run Try.prog w = .ok (.slice (some a) n c) w := by
  obtain ⟨i, hi, _⟩ := infoE
  simp [Builtin.append_, run_underlying Try.underlying40, sizeOf, typeInfo, hi, Builtin.lenOf, Builtin.firstCells, hn, storeCells, loadCells, loadCellsFrom]

section
variable {ops : Array Oper} {Q : Exit → Act → World → Prop} {rest : List Oper} {o : Oper} {a : Act} {w : World}
theorem wpList_append_zero (hgd : o.guard = none) (s x : Operand) (ho : o.op = .call { callee := .builtin .append, args := #[s, x], argTypes := #[40, 40] })
    (A : Addr) (ad : Option Addr) (n c c' : Nat) (hs : a.eval s = .slice (some A) n c) (hx : a.eval x = .slice ad 0 c') (had : ∃ B, ad = some B) (hn : n ≤ c)
    (h : wpList Try.prog ops Q rest (a.put o.dst (.slice (some A) n c)) w) : wpList Try.prog ops Q (o :: rest) a w := by
  obtain ⟨B, rfl⟩ := had
  have hrun := run_append_zero w o.type A B n c c' hn
  refine wpList_plain hgd fun K hK => ?_
  unfold Oper.wp
  simp [execOp, ho, resolve, invoke, builtin, hs, hx, hrun, Result.andThen]
  exact hK _ _ h
end

theorem delete_tail {w : World} {g cap k : Nat} {ps : List (Ent × Value)} (h : w.ownsRow 0 47 8 (.slice (some ⟨g, 0, none⟩) ps.length cap) ps.length (flatE ps)) (hk : k < ps.length) :
    Calls Try.prog 40 #[.slice (some ⟨g, 0, none⟩) ps.length cap, .int .i64 k, .int .i64 ps.length] w fun q w' => q = .returned (.slice (some ⟨g, 0, none⟩) k cap) ∧ w'.ownsRow 0 47 8 (.slice (some ⟨g, 0, none⟩) k cap) k (flatE (ps.take k)) ∧ w.grownBy w' (some g) := by
  obtain ⟨_, ⟨e, _⟩ | ⟨g', cap', cur, e, _, hg, hn, hc, hs, ht⟩⟩ := h
  · cases e
  cases e
  have hlt : (ps.take k).length = k := by rw [List.length_take]; omega
  have hB : Blk w.drew g 47 cur.toList := (show w.heap[g]? = some (.cells cur.toList.toArray 47) from by simpa using hg)
  obtain ⟨w', vs', hcl, hb', hl', ht', hgr⟩ := run_clear8 g (k * 8) (ps.length - k) (cap - k) cur.toList hB (by omega) (by simp [hs]; omega)
  have HEnd : Hid (w'.ownsRow 0 47 8 (.slice (some ⟨g, 0, none⟩) k cap) k (flatE (ps.take k)) ∧ w.grownBy w' (some g)) := by
    refine ⟨⟨by rw [flatE_length, hlt], .inr ⟨g, cap, vs'.toArray, rfl, Nat.zero_le _, hb', by omega, hc, by simpa [hs] using hl', ?_⟩⟩, ⟨hgr.os, hgr.tape, hgr.output, hgr.size, hgr.block⟩⟩
    show vs'.take (k * 8) = _
    rw [ht', ← flatE_take, ← ht, List.take_take, Nat.min_eq_left (by omega)]
  have hc2 : cap ≤ 9223372036854775807 := by unfold maxLen at hc; omega
  have hcap1 : ¬ cap = k := by omega
  have hkl : (k : Int) < ps.length := by omega
  have hkl' : (k : Int) ≤ ps.length := by omega
  have hne : ((k : Int) == (ps.length : Int)) = false := by simp; omega
  clear hB hb' hl' ht' hgr hs ht hg hlt hc
  rcases Decidable.em (cap = ps.length) with hcp | hcp
  case' inl => subst hcp
  all_goals
   go_enter Try.func40, Try.ntmps40
   go_upto_region 5 with fail
   have ne : Nonempty (WIn (fun _ => True)) := ⟨⟨w, trivial⟩⟩
   refine wp_region_ord (C := fun w' => ∃ z : WIn (fun _ => True), w' = z.w) [(false, 0), (false, 1), (false, 2), (false, 3), (false, 4), (false, 5), (true, 6), (false, 7)] (by kernel_rfl) (by kernel_rfl) ⟨⟨w.drew, trivial⟩, rfl⟩ ?_
   iterate 6 (refine ord_still rfl rfl ?_; go_big_quiet_step (fail); refine wpQuiet_nil ?_)
   refine ord_mem rfl rfl ?_
   refine wp_of_list rfl ?_
   refine wpList_append_zero rfl (.tmp 22) (.tmp 25) rfl ⟨g, 0, none⟩ _ k _ _ rfl rfl ?_ (by omega) ?_
   · first | exact ⟨_, rfl⟩ | (split <;> exact ⟨_, rfl⟩)
   refine ⟨rfl, ⟨⟨w.drew, trivial⟩, rfl⟩, ?_⟩
   go_simp
   iterate 1 (refine ord_still rfl rfl ?_; go_big_quiet_step (fail); refine wpQuiet_nil ?_)
   refine ord_end ?_
   clear ne
   go_wp2
   go_ret
   exact ⟨rfl, HEnd.out.1, HEnd.out.2⟩
end

section
set_option linter.unusedVariables false
set_option linter.unusedSimpArgs false
set_option synthInstance.maxSize 20000
set_option maxHeartbeats 2000000
set_option maxRecDepth 20000
open Go.RowKit Go.Maps

/-- What Cut leaves: the end is handed out in new memory, the log is what was ahead of it. -/
def PCutTo (w : World) (o : Nat → Nat) (w' : World) (j la b : Nat) (W p : Int) (S : St) (L : Lg) (v2 : Value) (kk : Nat) : Prop := ∃ qs o', qs.map (·.1) = L.es.drop kk ∧ RowE w' v2 qs ∧ Ents w' o' qs ∧ (∀ k, v2.ownBlock = some k → o' k = 0) ∧ LogIs w' o' j la b W p ⟨L.es.take kk, sumOf S (L.es.take kk)⟩ ∧ Mv [j] w o w' o'

theorem pcut_end {w w2 w4 : World} {o : Nat → Nat} {j la b : Nat} {W p : Int} {L : Lg} {g cap k : Nat} {ps qs : List (Ent × Value)} {v2 : Value} (hA : LogAt w o j la b W p L (.slice (some ⟨g, 0, none⟩) ps.length cap) ps) (hj0 : j ≠ 0) (hk : k < ps.length) (hb : Below w.heap.size w w2)
    (hv2 : RowE w2 v2 qs) (hE2 : Ents w2 (newTo o w 0) qs) (hn2 : ∀ k, v2.ownBlock = some k → w.heap.size ≤ k) (hrow : w4.ownsRow 0 47 8 (.slice (some ⟨g, 0, none⟩) k cap) k (flatE (ps.take k))) (hg : w2.grownBy w4 (some g)) :
    Blk w4 la 91 [ptr b, .int .i64 W, .int .u64 p, .slice (some ⟨g, 0, none⟩) ps.length cap, .int .u64 L.sum] ∧ RowE (w4.setCell ⟨la, 3, none⟩ (.slice (some ⟨g, 0, none⟩) k cap)) v2 qs ∧
    ∀ sum, U64 sum → ∃ o', RowE ((w4.setCell ⟨la, 3, none⟩ (.slice (some ⟨g, 0, none⟩) k cap)).setCell ⟨la, 4, none⟩ (.int .u64 sum)) v2 qs ∧ Ents ((w4.setCell ⟨la, 3, none⟩ (.slice (some ⟨g, 0, none⟩) k cap)).setCell ⟨la, 4, none⟩ (.int .u64 sum)) o' qs ∧ (∀ k, v2.ownBlock = some k → o' k = 0) ∧
      LogIs ((w4.setCell ⟨la, 3, none⟩ (.slice (some ⟨g, 0, none⟩) k cap)).setCell ⟨la, 4, none⟩ (.int .u64 sum)) o' j la b W p ⟨L.es.take k, sum⟩ ∧ Mv [j] w o ((w4.setCell ⟨la, 3, none⟩ (.slice (some ⟨g, 0, none⟩) k cap)).setCell ⟨la, 4, none⟩ (.int .u64 sum)) o' := by
  have m : Mv [] w o w2 (newTo o w 0) := Mv.of_below 0 hb
  have hA2 := hA.mv m (by simp) (by simp)
  have hown : ∀ k, v2.ownBlock = some k → newTo o w 0 k = 0 := fun k hk => newTo_new (hn2 k hk)
  generalize newTo o w 0 = o2 at *
  have hgo := hA2.rowOwn g rfl
  have m2 : Mv [j] w2 o2 w4 o2 := ⟨hg.os, hg.tape, hg.output, hg.size, fun _ _ => rfl, fun k hk hn => hg.block k hk (fun e => hn (by have := Option.some.inj e; subst this; rw [hgo.1]; simp))⟩
  have B4 : Blk w4 la 91 [ptr b, .int .i64 W, .int .u64 p, .slice (some ⟨g, 0, none⟩) ps.length cap, .int .u64 L.sum] := hA2.blk.past hg (fun e => hgo.2 e.symm)
  have G3 := grown_setCell w4 la 3 (.slice (some ⟨g, 0, none⟩) k cap)
  have m3 : Mv [j] w4 o2 (w4.setCell ⟨la, 3, none⟩ (.slice (some ⟨g, 0, none⟩) k cap)) o2 := ⟨G3.os, G3.tape, G3.output, G3.size, fun _ _ => rfl, fun k hk hn => G3.block k hk (fun e => hn (by have := Option.some.inj e; subst this; rw [hA2.own]; simp))⟩
  have notj : ∀ k, v2.ownBlock = some k → o2 k ∉ [j] := fun k hk => by rw [hown k hk]; simp; omega
  refine ⟨B4, (hv2.mv m2 notj).mv m3 notj, fun sum hs => ?_⟩
  have B5 := B4.set 3 (.slice (some ⟨g, 0, none⟩) k cap)
  have B6 := B5.set 4 (.int .u64 sum)
  generalize hw5 : w4.setCell ⟨la, 3, none⟩ (.slice (some ⟨g, 0, none⟩) k cap) = w5 at *
  have G4 := grown_setCell w5 la 4 (.int .u64 sum)
  have m4 : Mv [j] w5 o2 (w5.setCell ⟨la, 4, none⟩ (.int .u64 sum)) o2 := ⟨G4.os, G4.tape, G4.output, G4.size, fun _ _ => rfl, fun k hk hn => G4.block k hk (fun e => hn (by have := Option.some.inj e; subst this; rw [hA2.own]; simp))⟩
  have hl : (ps.take k).length = k := by rw [List.length_take]; omega
  have mm := (m2.trans m3).trans m4
  have h0 : 0 ∉ [j] := by simp; omega
  have hgk : ∀ k', (Value.slice (some ⟨g, 0, none⟩) k cap).ownBlock = some k' → k' = g := fun k' hk' => (Option.some.inj hk').symm
  have hr5 : w5.ownsRow 0 47 8 (.slice (some ⟨g, 0, none⟩) k cap) k (flatE (ps.take k)) := ownsRow_block hrow (fun k' hk' => G3.block k' (hrow.lt k' hk').2 (fun e => hgo.2 ((hgk k' hk').symm.trans (Option.some.inj e))))
  have hr6 := ownsRow_block hr5 (fun k' hk' => G4.block k' (hr5.lt k' hk').2 (fun e => hgo.2 ((hgk k' hk').symm.trans (Option.some.inj e))))
  refine ⟨o2, hv2.mv mm notj, hE2.mv mm h0, hown, ⟨.slice (some ⟨g, 0, none⟩) k cap, ps.take k, B6, hA2.own, by rw [hl]; exact hr6, fun k' hk' => by rw [hgk k' hk']; exact hgo, (hA2.ents.take k).mv mm h0, fun q hq => hA.short q (List.mem_of_mem_take hq), by rw [List.map_take, hA.es], by have := hA.few; omega, hs, hA.hp, hA.hW⟩, (m.widen (by simp)).trans mm⟩

theorem pcut_some {w : World} {o : Nat → Nat} {j la b : Nat} {W p s : Int} {S : St} {L : Lg} (hL : LogIs w o j la b W p L) (hw : Whole S W p s L) (hj0 : j ≠ 0) (n : Int) (kk : Nat) (hm : (if n < 0 then 0 else n) = (kk : Int)) (hk : kk < L.es.length) :
    Calls Try.prog 16 #[ptr la, .int .i64 n] w fun q w' => ∃ v2, q = .returned v2 ∧ PCutTo w o w' j la b W p S L v2 kk := by
  have LN := lenL_any hL
  obtain ⟨v, ps, hA⟩ := hL
  have hlen := hA.len
  obtain ⟨_, ⟨e, he0⟩ | ⟨g, cap, cur, rfl, _, _, hcap, hcm, _⟩⟩ := hA.row
  · omega
  obtain ⟨e, hee⟩ : ∃ e, L.es[kk]? = some e := ⟨_, List.getElem?_eq_getElem hk⟩
  have hz := (check_zero _ _ _ _ _).1 (hw.each kk e hee).1
  have hek := (hw.each kk e hee).2.1
  have hp : e.p = sumOf S (L.es.take kk) := hz.2.2.2.2.1
  have hkp : kk < ps.length := by omega
  have CP := copies_any (rowE_drop hA.rowE (Nat.le_of_lt hkp)) (hA.ents.drop kk) (by have := hA.few; rw [List.length_drop]; omega) (fun q hq => by have := hA.short q (List.mem_of_mem_drop hq); omega)
  rw [Nat.zero_add, List.map_drop, hA.es] at CP
  have hq0 : ∀ qs : List (Ent × Value), qs.map (·.1) = L.es.drop kk → ∃ q, qs[0]? = some q ∧ q.1 = e := fun qs h => by
    have h1 : (qs.map (·.1))[0]? = some e := by rw [h, List.getElem?_drop, Nat.add_zero]; exact hee
    rw [List.getElem?_map] at h1
    cases hq : qs[0]? with
    | none => rw [hq] at h1; cases h1
    | some q => rw [hq] at h1; exact ⟨q, rfl, Option.some.inj h1⟩
  have HQ0 : Hid (∀ qs : List (Ent × Value), qs.map (·.1) = L.es.drop kk → ∃ q, qs[0]? = some q ∧ q.1 = e) := hq0
  have HU : Hid (U64 e.p) := hek.2.2.1
  have HP : Hid (e.p = sumOf S (L.es.take kk)) := hp
  have HLN : Hid (Calls Try.prog 32 #[ptr la] w fun r w' => r = .returned (.int .i64 (ps.length : Int)) ∧ w' = w) := (show Calls _ _ _ _ _ from by rw [← hlen]; exact LN)
  have HCP : Hid (Calls Try.prog 39 #[.slice (some ⟨g, kk * 8, none⟩) (ps.length - kk) (cap - kk)] w fun r w' => ∃ v' ps', r = .returned v' ∧ ps'.map (·.1) = L.es.drop kk ∧ RowE w' v' ps' ∧ Ents w' (newTo o w 0) ps' ∧ Below w.heap.size w w' ∧ (∀ k, v'.ownBlock = some k → w.heap.size ≤ k)) := CP
  have HA : Hid (LogAt w o j la b W p L (.slice (some ⟨g, 0, none⟩) ps.length cap) ps) := hA
  have HJ : Hid (j ≠ 0) := hj0
  have c3 := hA.blk.cell 3 _ rfl
  have hcap1 : ¬ cap = kk := by omega
  have hkl : (kk : Int) < ps.length := by omega
  have hkl2 : ¬ (ps.length : Int) ≤ kk := by omega
  have hk0 : (0 : Int) ≤ kk := by omega
  have hc2 : cap ≤ 9223372036854775807 := by unfold maxLen at hcm; omega
  clear hA LN CP hq0 hp hek hz hee hw hk hlen hj0 hcm
  go_enter Try.func16, Try.ntmps16
  go_upto_region 5 with (first
    | (go_at_call 32; go_must (refine (Calls.mono HLN.out ?_); rintro q w0 ⟨rfl, hw0⟩; replace hw0 := hw0.symm; subst hw0))
    | (go_at_call 39; go_must (refine (Calls.mono HCP.out ?_); rintro q w2 ⟨v2, qs, rfl, h1, h2, h3, h4, h5⟩; obtain ⟨va2, vc2, hv2⟩ := h2.len; subst hv2)))
  have HA2 : Hid (LogAt w2.drew (newTo o w 0) j la b W p L (.slice (some ⟨g, 0, none⟩) ps.length cap) ps) := (HA.out.mv (Mv.of_below (I := []) 0 h4) (by simp) (by simp)).mv (mv_drewn (I := []) w2 _) (by simp) (by simp)
  have HR2 : Hid (RowE w2.drew (.slice va2 qs.length vc2) qs) := (show RowE _ _ _ from h2.blocks (fun _ _ _ => rfl))
  have HE2 : Hid (Ents w2.drew (newTo o w 0) qs) := h3.mv (mv_drewn (I := []) w2 _) (by simp)
  have HB2 : Hid (Below w.heap.size w w2.drew) := h4.drew
  have HN2 : Hid (∀ k, (Value.slice va2 qs.length vc2).ownBlock = some k → w.heap.size ≤ k) := h5
  obtain ⟨q0, hq0, hqe⟩ := HQ0.out qs h1
  have HM : Hid (qs.map (·.1) = L.es.drop kk) := h1
  have hq1 : 0 < qs.length := (List.getElem?_eq_some_iff.1 hq0).1
  have hq2 : (0 : Int) < qs.length := by omega
  obtain ⟨gb, off, hva, _⟩ := HR2.out.at hq0
  subst hva
  have HQ : Hid (qs[0]? = some q0) := hq0
  have HQe : Hid (q0.1 = e) := hqe
  clear h1 h2 h3 h4 h5 hq0 hqe c3 HQ0 HCP HLN
  refine wp_region_tree (C := fun w' => ∃ z : WIn (fun _ => True), w' = z.w) (.still 0 (.still 1 (.still 2 (.still 3 (.still 5 (.still 6 (.still 7 (.still 8 (.two 4 (.one 9 (.still 10 (.one 11 (.still 12 (.still 13 (.one 14 .done)))))) 9 (.still 10 (.one 4 (.one 11 (.still 12 (.still 13 (.one 14 .done))))))))))))))) (by kernel_rfl) (by kernel_rfl) ⟨⟨w2.drew, trivial⟩, rfl⟩ ?_
  generalize w2.drew = wd at *
  have ne : Nonempty (WIn (fun _ => True)) := ⟨⟨wd, trivial⟩⟩
  have c3 := HA2.out.blk.cell 3 _ rfl
  iterate 8 (refine tree_still rfl rfl ?_; go_big_quiet_step (fail); refine wpQuiet_nil ?_)
  refine tree_two rfl rfl rfl rfl ?_ ?_
  · go_simp
    refine ⟨⟨⟨wd, trivial⟩, rfl⟩, ?_⟩
    refine tree_one rfl rfl ?_
    go_simp
    refine ⟨⟨⟨wd, trivial⟩, rfl⟩, ?_⟩
    refine tree_still rfl rfl ?_
    go_big_quiet_step (fail)
    refine wpQuiet_nil ?_
    refine tree_one rfl rfl ?_
    go_simp
    refine (delete_tail HA2.out.row hkp).mono ?_
    rintro r w4 ⟨rfl, hr4, hg4⟩
    have HEnd := pcut_end HA.out HJ.out hkp HB2.out HR2.out HE2.out HN2.out hr4 hg4
    have B4 := HEnd.1
    have b3 := B4.cell 3 _ rfl
    have g3 := B4.frozen 3
    have B5 := B4.set 3 (.slice (some ⟨g, 0, none⟩) kk cap)
    have b4 := B5.cell 4 _ rfl
    have g4 := B5.frozen 4
    obtain ⟨gb', off', hvb, hcc⟩ := HEnd.2.1.at HQ.out
    cases hvb
    have x2 := hcc 2 _ rfl
    rw [HQe.out, Nat.zero_mul, Nat.add_zero] at x2
    have HF : Hid (∃ o', RowE ((w4.setCell ⟨la, 3, none⟩ (.slice (some ⟨g, 0, none⟩) kk cap)).setCell ⟨la, 4, none⟩ (.int .u64 e.p)) (.slice (some ⟨gb, off, none⟩) qs.length vc2) qs ∧ Ents ((w4.setCell ⟨la, 3, none⟩ (.slice (some ⟨g, 0, none⟩) kk cap)).setCell ⟨la, 4, none⟩ (.int .u64 e.p)) o' qs ∧ (∀ k, (Value.slice (some ⟨gb, off, none⟩) qs.length vc2).ownBlock = some k → o' k = 0) ∧
      LogIs ((w4.setCell ⟨la, 3, none⟩ (.slice (some ⟨g, 0, none⟩) kk cap)).setCell ⟨la, 4, none⟩ (.int .u64 e.p)) o' j la b W p ⟨L.es.take kk, e.p⟩ ∧ Mv [j] w o ((w4.setCell ⟨la, 3, none⟩ (.slice (some ⟨g, 0, none⟩) kk cap)).setCell ⟨la, 4, none⟩ (.int .u64 e.p)) o') := HEnd.2.2 e.p HU.out
    clear HEnd B4 B5 hr4 hg4 hcc c3
    refine ⟨⟨⟨w4, trivial⟩, rfl⟩, ?_⟩
    iterate 2 (refine tree_still rfl rfl ?_; go_big_quiet_step (fail); refine wpQuiet_nil ?_)
    refine tree_one rfl rfl ?_
    go_simp
    refine ⟨⟨⟨_, trivial⟩, rfl⟩, ?_⟩
    refine tree_done ?_
    clear ne
    go_wp2
    go_ret
    obtain ⟨o', f1, f2, f3, f4, f5⟩ := HF.out
    rw [HP.out] at f4
    exact ⟨_, rfl, qs, o', HM.out, f1, f2, f3, by rw [← HP.out]; rw [← HP.out] at f4; exact f4, f5⟩
  · go_simp
    refine ⟨⟨⟨wd, trivial⟩, rfl⟩, ?_⟩
    refine tree_still rfl rfl ?_
    go_big_quiet_step (fail)
    refine wpQuiet_nil ?_
    refine tree_one rfl rfl ?_
    go_simp
    refine ⟨⟨⟨wd, trivial⟩, rfl⟩, ?_⟩
    refine tree_one rfl rfl ?_
    go_simp
    refine (delete_tail HA2.out.row hkp).mono ?_
    rintro r w4 ⟨rfl, hr4, hg4⟩
    have HEnd := pcut_end HA.out HJ.out hkp HB2.out HR2.out HE2.out HN2.out hr4 hg4
    have B4 := HEnd.1
    have b3 := B4.cell 3 _ rfl
    have g3 := B4.frozen 3
    have B5 := B4.set 3 (.slice (some ⟨g, 0, none⟩) kk cap)
    have b4 := B5.cell 4 _ rfl
    have g4 := B5.frozen 4
    obtain ⟨gb', off', hvb, hcc⟩ := HEnd.2.1.at HQ.out
    cases hvb
    have x2 := hcc 2 _ rfl
    rw [HQe.out, Nat.zero_mul, Nat.add_zero] at x2
    have HF : Hid (∃ o', RowE ((w4.setCell ⟨la, 3, none⟩ (.slice (some ⟨g, 0, none⟩) kk cap)).setCell ⟨la, 4, none⟩ (.int .u64 e.p)) (.slice (some ⟨gb, off, none⟩) qs.length vc2) qs ∧ Ents ((w4.setCell ⟨la, 3, none⟩ (.slice (some ⟨g, 0, none⟩) kk cap)).setCell ⟨la, 4, none⟩ (.int .u64 e.p)) o' qs ∧ (∀ k, (Value.slice (some ⟨gb, off, none⟩) qs.length vc2).ownBlock = some k → o' k = 0) ∧
      LogIs ((w4.setCell ⟨la, 3, none⟩ (.slice (some ⟨g, 0, none⟩) kk cap)).setCell ⟨la, 4, none⟩ (.int .u64 e.p)) o' j la b W p ⟨L.es.take kk, e.p⟩ ∧ Mv [j] w o ((w4.setCell ⟨la, 3, none⟩ (.slice (some ⟨g, 0, none⟩) kk cap)).setCell ⟨la, 4, none⟩ (.int .u64 e.p)) o') := HEnd.2.2 e.p HU.out
    clear HEnd B4 B5 hr4 hg4 hcc c3
    refine ⟨⟨⟨w4, trivial⟩, rfl⟩, ?_⟩
    iterate 2 (refine tree_still rfl rfl ?_; go_big_quiet_step (fail); refine wpQuiet_nil ?_)
    refine tree_one rfl rfl ?_
    go_simp
    refine ⟨⟨⟨_, trivial⟩, rfl⟩, ?_⟩
    refine tree_done ?_
    clear ne
    go_wp2
    go_ret
    obtain ⟨o', f1, f2, f3, f4, f5⟩ := HF.out
    rw [HP.out] at f4
    exact ⟨_, rfl, qs, o', HM.out, f1, f2, f3, by rw [← HP.out]; rw [← HP.out] at f4; exact f4, f5⟩


theorem pcut_none {w : World} {o : Nat → Nat} {j la b : Nat} {W p : Int} {L : Lg} (hL : LogIs w o j la b W p L) (n m : Int) (hm : (if n < 0 then 0 else n) = m) (hk : (L.es.length : Int) ≤ m) :
    Calls Try.prog 16 #[ptr la, .int .i64 n] w fun q w' => q = .returned (.slice none 0 0) ∧ w' = w := by
  have HLN : Hid (Calls Try.prog 32 #[ptr la] w fun r w' => r = .returned (.int .i64 (L.es.length : Int)) ∧ w' = w) := lenL_any hL
  clear hL
  go_enter Try.func16, Try.ntmps16
  go_wp2_with (go_at_call 32; go_must (refine (Calls.mono HLN.out ?_); rintro q w0 ⟨rfl, hw0⟩; replace hw0 := hw0.symm; subst hw0))
  go_ret
  exact ⟨rfl, rfl⟩

theorem whole_take_all {S : St} {W p s : Int} {L : Lg} (h : Whole S W p s L) {k : Nat} (hk : L.es.length ≤ k) : (⟨L.es.take k, sumOf S (L.es.take k)⟩ : Lg) = L := by
  obtain ⟨es, sum⟩ := L
  have := h.sum
  dsimp only at *
  rw [List.take_of_length_le hk, ← this]

/-- Where a log is cut. -/
def cutK (n : Int) (l : Nat) : Nat := if n < 0 then 0 else min n.toNat l

theorem pcut_any {w : World} {o : Nat → Nat} {j la b : Nat} {W p s : Int} {S : St} {L : Lg} (hL : LogIs w o j la b W p L) (hw : Whole S W p s L) (hj0 : j ≠ 0) (n : Int) :
    Calls Try.prog 16 #[ptr la, .int .i64 n] w fun q w' => ∃ v2, q = .returned v2 ∧ PCutTo w o w' j la b W p S L v2 (cutK n L.es.length) := by
  obtain ⟨m, hm⟩ : ∃ m : Int, (if n < 0 then 0 else n) = m := ⟨_, rfl⟩
  have h0 : 0 ≤ m := by rw [← hm]; split <;> omega
  have hc : cutK n L.es.length = min m.toNat L.es.length := by
    unfold cutK
    rw [← hm]
    split <;> simp
  rw [hc]
  by_cases hk : m < L.es.length
  · obtain ⟨kk, rfl⟩ : ∃ kk : Nat, m = kk := ⟨m.toNat, by omega⟩
    rw [Int.toNat_natCast, Nat.min_eq_left (by omega)]
    exact pcut_some hL hw hj0 n kk hm (by omega)
  · rw [Nat.min_eq_right (by omega)]
    refine (pcut_none hL n m hm (by omega)).mono ?_
    rintro q w' ⟨rfl, rfl⟩
    refine ⟨_, rfl, [], o, ?_, rowE_nil _, Ents.nil _ _, (fun k hk => by simp [Value.ownBlock] at hk), ?_, Mv.refl _ _ _⟩
    · rw [List.drop_of_length_le (Nat.le_refl _)]; rfl
    · rw [whole_take_all hw (Nat.le_refl _)]; exact hL
end

section
set_option linter.unusedVariables false
set_option linter.unusedSimpArgs false
set_option synthInstance.maxSize 20000
set_option maxHeartbeats 2000000
set_option maxRecDepth 20000
open Go.RowKit Go.Maps

theorem OwnC.addr {w : World} {a : Option Addr} {n cap : Nat} {xs : List Value} (h : OwnC w (.slice a n cap) n xs) : a = none ∨ ∃ g, a = some ⟨g, 0, none⟩ := by
  obtain ⟨u, h1, rfl | ⟨g, m, cap', _, e, _⟩⟩ := h
  · rcases h1.2 with ⟨e, _⟩ | ⟨g, cap', cur, e, _⟩
    · cases e; exact .inl rfl
    · cases e; exact .inr ⟨g, rfl⟩
  · cases e; exact .inr ⟨g, rfl⟩

theorem rcut_nil {w : World} {o : Nat → Nat} {j lx : Nat} {W p : Int} (hL : RLogIs w o j lx W p []) (hj0 : j ≠ 0) (n : Int) :
    Calls Try.prog 17 #[ptr lx, .int .i64 n] w fun q w' => ∃ v2, q = .returned v2 ∧ CutTo w o w' j lx W p [] v2 0 := by
  obtain ⟨v, ps, hA⟩ := hL
  have hps : ps = [] := List.map_eq_nil_iff.1 hA.es
  subst hps
  obtain ⟨av, cv', rfl, hcv1, hcv2, hcv3⟩ := hA.row.slice
  have hcut : OwnC w (.slice av 0 0) 0 (flatE []) := hA.row.cut (k := 0) (Nat.zero_le _)
  have hob : ∀ k, (Value.slice av 0 0).ownBlock = some k → (Value.slice av ([] : List (Ent × Value)).length cv').ownBlock = some k := fun k hk => by
    cases av with
    | none => cases hk
    | some ad => exact hk
  have hEnd : ∀ (w6 : World) (v2 : Value), w6.ownsRow 0 47 8 v2 0 (flatE []) → (w.alloc (.cells #[] 47)).grownBy w6 (some w.heap.size) → (∀ k, v2.ownBlock = some k → some w.heap.size = some k ∨ (w.alloc (.cells #[] 47)).heap.size ≤ k) → Blk w6 lx 42 [.int .i64 W, .int .u64 p, .slice av 0 cv'] ∧ CutTo w o (w6.setCell ⟨lx, 2, none⟩ (.slice av 0 0)) j lx W p [] v2 0 := fun w6 v2 h1 h2 h3 => by
    have hb : Below w.heap.size w w6 := bgrown (balloc (Below.refl _ _) _) (Nat.le_refl _) h2
    refine ⟨hA.blk.below hb, rcut_nil_end hA hj0 hb h1 (fun k hk => ?_) hcut hob⟩
    rcases h3 k hk with r | r
    · have := Option.some.inj r; omega
    · simp at r; omega
  have b2 := hA.blk.cell 2 _ rfl
  have b2' := (hA.blk.alloc (.cells #[] 47)).cell 2 _ rfl
  have HR0 := crow_none w
  have HRx : Hid (RowE (w.alloc (.cells #[] 47)) (.slice av 0 cv') []) := (show RowE _ _ _ from (rowE_c hA.row).below (balloc (Below.refl _ _) _))
  have HEn : Hid (∀ (w6 : World) (v2 : Value), w6.ownsRow 0 47 8 v2 0 (flatE []) → (w.alloc (.cells #[] 47)).grownBy w6 (some w.heap.size) → (∀ k, v2.ownBlock = some k → some w.heap.size = some k ∨ (w.alloc (.cells #[] 47)).heap.size ≤ k) → Blk w6 lx 42 [.int .i64 W, .int .u64 p, .slice av 0 cv'] ∧ CutTo w o (w6.setCell ⟨lx, 2, none⟩ (.slice av 0 0)) j lx W p [] v2 0) := hEnd
  have hadr := hA.row.addr
  unfold maxLen at hcv2
  simp only [List.length_nil] at *
  clear hA hcut hob hEnd hj0 hcv1
  obtain ⟨m, hm⟩ : ∃ m : Int, (if n < 0 then 0 else n) = m := ⟨_, rfl⟩
  have h0 : 0 ≤ m := by rw [← hm]; split <;> omega
  rcases hadr with rfl | ⟨g, rfl⟩
  · have := hcv3 rfl
    subst this
    clear hcv3 hcv2
    rcases Decidable.em (m = 0) with hm0 | hm0
    · subst hm0
      go_enter Try.func17, Try.ntmps17
      go_upto_region 3 with (at_builtin; go_must (refine wpList_append_ents rfl (.tmp 14) (.tmp 20) rfl (.slice (some ⟨w.heap.size, 0, none⟩) 0 0) [] rfl HR0 _ [] rfl HRx.out (by simp [flatE]) (by simp) ?_; intro v2 w6 hrow hg hwh; have HEnd := HEn.out w6 v2 hrow hg hwh; obtain ⟨va2, vc2, hv2, hv2b, hv2c⟩ := slice_of_own (n := 0) (xs := flatE []) hrow; subst hv2; have B6 := HEnd.1; have c2 := B6.cell 2 _ rfl; have f2 := B6.frozen 2; have HEnd' : Hid (CutTo w o (w6.setCell ⟨lx, 2, none⟩ (.slice none 0 0)) j lx W p [] (.slice va2 0 vc2) 0) := HEnd.2; clear B6 HEnd hrow hg hwh))
      all_goals go_wp2
      all_goals
        go_ret
        have HE2 := HEnd'.out
        exact ⟨_, rfl, HE2⟩
    · have hm1 : 0 < m := by omega
      go_enter Try.func17, Try.ntmps17
      go_upto_region 3 with (at_builtin; go_must (refine wpList_append_ents rfl (.tmp 14) (.tmp 20) rfl (.slice (some ⟨w.heap.size, 0, none⟩) 0 0) [] rfl HR0 _ [] rfl HRx.out (by simp [flatE]) (by simp) ?_; intro v2 w6 hrow hg hwh; have HEnd := HEn.out w6 v2 hrow hg hwh; obtain ⟨va2, vc2, hv2, hv2b, hv2c⟩ := slice_of_own (n := 0) (xs := flatE []) hrow; subst hv2; have B6 := HEnd.1; have c2 := B6.cell 2 _ rfl; have f2 := B6.frozen 2; have HEnd' : Hid (CutTo w o (w6.setCell ⟨lx, 2, none⟩ (.slice none 0 0)) j lx W p [] (.slice va2 0 vc2) 0) := HEnd.2; clear B6 HEnd hrow hg hwh))
      all_goals go_wp2
      all_goals
        go_ret
        have HE2 := HEnd'.out
        exact ⟨_, rfl, HE2⟩
  · clear hcv3
    rcases Decidable.em (m = 0) with hm0 | hm0
    · subst hm0
      go_enter Try.func17, Try.ntmps17
      go_upto_region 3 with (at_builtin; go_must (refine wpList_append_ents rfl (.tmp 14) (.tmp 20) rfl (.slice (some ⟨w.heap.size, 0, none⟩) 0 0) [] rfl HR0 _ [] rfl HRx.out (by simp [flatE]) (by simp) ?_; intro v2 w6 hrow hg hwh; have HEnd := HEn.out w6 v2 hrow hg hwh; obtain ⟨va2, vc2, hv2, hv2b, hv2c⟩ := slice_of_own (n := 0) (xs := flatE []) hrow; subst hv2; have B6 := HEnd.1; have c2 := B6.cell 2 _ rfl; have f2 := B6.frozen 2; have HEnd' : Hid (CutTo w o (w6.setCell ⟨lx, 2, none⟩ (.slice (some ⟨g, 0, none⟩) 0 0)) j lx W p [] (.slice va2 0 vc2) 0) := HEnd.2; clear B6 HEnd hrow hg hwh))
      all_goals go_wp2
      all_goals
        go_ret
        have HE2 := HEnd'.out
        exact ⟨_, rfl, HE2⟩
    · have hm1 : 0 < m := by omega
      go_enter Try.func17, Try.ntmps17
      go_upto_region 3 with (at_builtin; go_must (refine wpList_append_ents rfl (.tmp 14) (.tmp 20) rfl (.slice (some ⟨w.heap.size, 0, none⟩) 0 0) [] rfl HR0 _ [] rfl HRx.out (by simp [flatE]) (by simp) ?_; intro v2 w6 hrow hg hwh; have HEnd := HEn.out w6 v2 hrow hg hwh; obtain ⟨va2, vc2, hv2, hv2b, hv2c⟩ := slice_of_own (n := 0) (xs := flatE []) hrow; subst hv2; have B6 := HEnd.1; have c2 := B6.cell 2 _ rfl; have f2 := B6.frozen 2; have HEnd' : Hid (CutTo w o (w6.setCell ⟨lx, 2, none⟩ (.slice (some ⟨g, 0, none⟩) 0 0)) j lx W p [] (.slice va2 0 vc2) 0) := HEnd.2; clear B6 HEnd hrow hg hwh))
      all_goals go_wp2
      all_goals
        go_ret
        have HE2 := HEnd'.out
        exact ⟨_, rfl, HE2⟩

theorem rcut_any {w : World} {o : Nat → Nat} {j lx : Nat} {W p : Int} {es : List Ent} (hL : RLogIs w o j lx W p es) (hj0 : j ≠ 0) (n : Int) :
    Calls Try.prog 17 #[ptr lx, .int .i64 n] w fun q w' => ∃ v2, q = .returned v2 ∧ CutTo w o w' j lx W p es v2 (cutK n es.length) := by
  by_cases he : es = []
  · subst he
    have : cutK n ([] : List Ent).length = 0 := by unfold cutK; split <;> simp
    rw [this]
    exact rcut_nil hL hj0 n
  · have hpos : 0 < es.length := List.length_pos_iff.2 he
    unfold cutK
    by_cases h0 : n < 0
    · rw [if_pos h0]
      exact rcut_neg hL hj0 n h0 hpos
    · rw [if_neg h0]
      by_cases hb : (es.length : Int) < n
      · rw [Nat.min_eq_right (by omega)]
        exact rcut_big hL hj0 n hb hpos
      · rw [Nat.min_eq_left (by omega)]
        exact rcut_some hL hj0 n n.toNat h0 (by omega) (by omega) hpos
end

section
set_option linter.unusedVariables false
set_option linter.unusedSimpArgs false
set_option synthInstance.maxSize 20000
set_option maxHeartbeats 2000000
set_option maxRecDepth 20000
open Go.RowKit Go.Maps

structure PX (w0 w : World) (o : Nat → Nat) (b la lb r lx ly : Nat) (s p : Int) (S T : St) (L : Lg) (xs : List Ent) (M : Lg) (ys : List Ent) : Prop where
  g : G1 w0 w o b la s p S L
  duo : Duo w o b lb s p S M
  orc : ROrc w0 w o r T
  xlog : RLogIs w o 5 lx 1 p xs
  ylog : RLogIs w o 6 ly 1 p ys

section
variable {w0 w : World} {o : Nat → Nat} {b la lb r lx ly : Nat} {s p : Int} {S T : St} {L : Lg} {xs : List Ent} {M : Lg} {ys : List Ent}

theorem PX.mv {I : List Nat} {w' : World} {o' : Nat → Nat} (h : PX w0 w o b la lb r lx ly s p S T L xs M ys) (m : Mv I w o w' o') (hI : ∀ i ∈ I, i = 7 ∨ i = 9) : PX w0 w' o' b la lb r lx ly s p S T L xs M ys := by
  have no : ∀ i, i ≠ 7 → i ≠ 9 → i ∉ I := fun i h1 h2 e => by rcases hI i e with r | r <;> omega
  refine ⟨h.g.mvd m (no 0 (by omega) (by omega)) (no 1 (by omega) (by omega)) (no 3 (by omega) (by omega)) (fun i hi => ?_), h.duo.mv m (no 0 (by omega) (by omega)) (no 4 (by omega) (by omega)) (Sub.refl _), h.orc.mv m (no 0 (by omega) (by omega)) (no 8 (by omega) (by omega)), h.xlog.mv m (no 0 (by omega) (by omega)) (no 5 (by omega) (by omega)), h.ylog.mv m (no 0 (by omega) (by omega)) (no 6 (by omega) (by omega))⟩
  rcases hI i hi with r | r <;> subst r <;> simp
theorem PX.below {w' : World} (h : PX w0 w o b la lb r lx ly s p S T L xs M ys) (hb : Below w.heap.size w w') : PX w0 w' (newTo o w 0) b la lb r lx ly s p S T L xs M ys := h.mv (Mv.of_below (I := []) 0 hb) (by simp)
theorem PX.bel (h : PX w0 w o b la lb r lx ly s p S T L xs M ys) : Below w0.heap.size w0 w := h.g.bel
theorem PX.drew (h : PX w0 w o b la lb r lx ly s p S T L xs M ys) : PX w0 w.drew o b la lb r lx ly s p S T L xs M ys := h.mv (mv_drewn (I := []) w o) (by simp)

theorem fine_head {es : List Ent} {sum : Int} (hh : headM T es = (sum, S)) (hg : Good T) (hF : Fine T) (hN : T.rows.length < 1000000000) : Fine S := by
  unfold headM at hh
  split at hh
  · have e := congrArg Prod.snd hh
    dsimp only at e
    rw [← e]
    exact hF
  · have e := congrArg Prod.snd hh
    dsimp only at e
    rw [← e]
    exact hF.get hg hN (fun _ _ _ e => by cases e)

theorem PX.issue (h : PX w0 w o b la lb r lx ly s p S T L xs M ys) (hN : S.rows.length + 2 < 1000000000) {t n : Int} (ht : I64 t) (hn : I64 n) {l : List Int} {x : Value} (hx : Kp0 w o x l) (hlen : l.length ≤ 90000) :
    Calls Try.prog 19 #[ptr la, .int .u64 s, .agg #[.int .i64 t, .int .i64 1], .int .i64 n, x] w fun q w' => ∃ e k S' L' y o', q = .returned (.tuple #[ev e y, .int .i64 k]) ∧ issueM S 1 s L t 1 n l = ((e, k), S', L') ∧ Issued S p s L t 1 n l e k S' L' ∧ PX w0 w' o' b la lb r lx ly s p S' T L' xs M ys ∧ Kp0 w' o' y e.b ∧ Mv [1, 3] w o w' o' := by
  refine (h.g.issue' hN ht (i64_small (by omega) (by omega)) hn hx hlen).mono ?_
  rintro q w' ⟨e, k, S', L', y, o', rfl, h1, h2, h3, h4, h5⟩
  have hs : Sub S S' := by
    by_cases hk : k = 0
    · exact (h2.yes hk).sub
    · rw [(h2.no hk).2.1]; exact Sub.refl _
  exact ⟨e, k, S', L', y, o', rfl, h1, h2, ⟨h3, h.duo.mv h5 (by simp) (by simp) hs, h.orc.mv h5 (by simp) (by simp), h.xlog.mv h5 (by simp) (by simp), h.ylog.mv h5 (by simp) (by simp)⟩, h4, h5⟩

theorem PX.rissue {S' : St} {L' : Lg} (h : PX w0 w o b la lb r lx ly s p S' S L' L.es M ys) (K : Keyed' S s p) (hw : Whole S 1 p s L) (hF : Fine S) (hN : S.rows.length + 3 ≤ 100000) (hfew : L.es.length < 200) {t n k : Int} {e : Ent} (ht : I64 t) (hn : I64 n) {l : List Int} {x : Value} (hx : Kp0 w o x l) (hM : issueM S 1 s L t 1 n l = ((e, k), S', L')) :
    Calls Try.prog 20 #[ptr lx, ptr r, .int .u64 s, .agg #[.int .i64 t, .int .i64 1], .int .i64 n, x] w fun q w' => ∃ y T' o', q = .returned (.tuple #[ev e y, .int .i64 k]) ∧ Kp0 w' o' y e.b ∧ PX w0 w' o' b la lb r lx ly s p S' T' L' L'.es M ys ∧ headM T' L'.es = (L'.sum, S') ∧ Fine T' ∧ T'.rows.length ≤ S'.rows.length ∧ Mv [8, 5] w o w' o' := by
  refine (rissue_pend K hw (pend_full K hF hw) h.orc h.xlog hN hfew ht hn hx hM).mono ?_
  rintro q w' ⟨y, T', o', rfl, h1, h2, h3, h4, h5⟩
  exact ⟨y, T', o', rfl, h1, ⟨h.g.mvd h5 (by simp) (by simp) (by simp) (by simp), h.duo.mv h5 (by simp) (by simp) (Sub.refl _), h2, h3, h.ylog.mv h5 (by simp) (by simp)⟩, h4.hd, h4.fine, h4.len.2, h5⟩

theorem PX.sameA (h : PX w0 w o b la lb r lx ly s p S T L L.es M ys) (hh : headM T L.es = (L.sum, S)) (hN : T.rows.length + 1 ≤ 100000) :
    Calls Try.prog 18 #[ptr la, ptr lx, ptr r] w fun q w' => q = .returned (.bool true) ∧ ∃ o', PX w0 w' o' b la lb r lx ly s p S S L L.es M ys ∧ Mv [8] w o w' o' := by
  refine (same_log h.g.log h.xlog h.orc hh (Pend.last (T := T) h.g.whole) ⟨by omega, by omega⟩ ⟨by omega, by omega⟩ hN).mono ?_
  rintro q w' ⟨rfl, o', h1, h2⟩
  exact ⟨rfl, o', ⟨h.g.mvd h2 (by simp) (by simp) (by simp) (by simp), h.duo.mv h2 (by simp) (by simp) (Sub.refl _), h1, h.xlog.mv h2 (by simp) (by simp), h.ylog.mv h2 (by simp) (by simp)⟩, h2⟩

theorem PX.sameB (h : PX w0 w o b la lb r lx ly s p S T L xs M M.es) (hh : headM T M.es = (M.sum, S)) (hN : T.rows.length + 1 ≤ 100000) :
    Calls Try.prog 18 #[ptr lb, ptr ly, ptr r] w fun q w' => q = .returned (.bool true) ∧ ∃ o', PX w0 w' o' b la lb r lx ly s p S S L xs M M.es ∧ Mv [8] w o w' o' := by
  refine (same_log h.duo.log h.ylog h.orc hh (Pend.last (T := T) h.duo.whole) ⟨by omega, by omega⟩ ⟨by omega, by omega⟩ hN).mono ?_
  rintro q w' ⟨rfl, o', h1, h2⟩
  exact ⟨rfl, o', ⟨h.g.mvd h2 (by simp) (by simp) (by simp) (by simp), h.duo.mv h2 (by simp) (by simp) (Sub.refl _), h1, h.xlog.mv h2 (by simp) (by simp), h.ylog.mv h2 (by simp) (by simp)⟩, h2⟩

theorem PX.check (h : PX w0 w o b la lb r lx ly s p S T L xs M ys) {e : Ent} {x : Value} (he : EOk e) (hx : Kp0 w o x e.b) (hlen : e.b.length ≤ 90000) :
    Calls Try.prog 23 #[ptr lb, ev e x] w fun q w' => q = .returned (.int .i64 (checkM S 1 p M e)) ∧ Below w.heap.size w w' := check_any ⟨h.duo.log, h.g.orc, he, hx.1, hlen⟩ (by omega)

theorem PX.asks (h : PX w0 w o b la lb r lx ly s p T S L xs M ys) {N : Lg} (hy : ys = N.es) (K : Keyed' S s p) (hw : Whole S 1 p s N) (hF : Fine S) {e : Ent} {x : Value} (he : EOk e) (hx : Kp0 w o x e.b) (hN : S.rows.length + 1 ≤ 100000) : RAsk w0 w o 6 ly r S 1 p N.es N.sum e x :=
  ⟨by rw [← hy]; exact h.ylog, h.orc, hF, he, hx.1, (pend_full K hF hw).hd, Pend.last (T := S) hw, by omega, hN⟩

theorem PX.rcheck (h : PX w0 w o b la lb r lx ly s p S S L xs M M.es) (hF : Fine S) {e : Ent} {x : Value} (he : EOk e) (hx : Kp0 w o x e.b) (hN : S.rows.length + 1 ≤ 100000) :
    Calls Try.prog 24 #[ptr ly, ptr r, ev e x] w fun q w' => q = .returned (.int .i64 (checkM S 1 p M e)) ∧ ∃ o', PX w0 w' o' b la lb r lx ly s p S S L xs M M.es ∧ Mv [8] w o w' o' := by
  refine (rcheck_any (h.asks rfl h.g.key h.duo.whole hF he hx hN)).mono ?_
  rintro q w' ⟨rfl, o', h1, h2⟩
  exact ⟨rfl, o', ⟨h.g.mvd h2 (by simp) (by simp) (by simp) (by simp), h.duo.mv h2 (by simp) (by simp) (Sub.refl _), h1, h.xlog.mv h2 (by simp) (by simp), h.ylog.mv h2 (by simp) (by simp)⟩, h2⟩

theorem PX.accept (h : PX w0 w o b la lb r lx ly s p S T L xs M ys) (hN : S.rows.length + 2 < 1000000000) {e : Ent} {x : Value} (he : EOk e) (hx : Kp0 w o x e.b) (hlen : e.b.length ≤ 90000) :
    Calls Try.prog 25 #[ptr lb, ev e x] w fun q w' => ∃ k S' M' o', q = .returned (.int .i64 k) ∧ acceptM S 1 p M e = (k, S', M') ∧ S'.rows.length ≤ S.rows.length + 1 ∧ PX w0 w' o' b la lb r lx ly s p S' T L xs M' ys ∧ Mv [1, 4] w o w' o' := by
  refine (h.duo.accept h.g hN he hx hlen).mono ?_
  rintro q w' ⟨k, S', M', o', rfl, h1, h2, h3, h4, h5, h6⟩
  exact ⟨k, S', M', o', rfl, h1, h2, ⟨h4, h5, h.orc.mv h6 (by simp) (by simp), h.xlog.mv h6 (by simp) (by simp), h.ylog.mv h6 (by simp) (by simp)⟩, h6⟩

theorem PX.raccept {S' : St} {M' : Lg} (h : PX w0 w o b la lb r lx ly s p S' S L xs M' M.es) (K : Keyed' S s p) (hw : Whole S 1 p s M) (hF : Fine S) {e : Ent} {x : Value} (he : EOk e) (hx : Kp0 w o x e.b) (hN : S.rows.length + 1 ≤ 100000) {k : Int} (hM : acceptM S 1 p M e = (k, S', M')) :
    Calls Try.prog 26 #[ptr ly, ptr r, ev e x] w fun q w' => q = .returned (.int .i64 k) ∧ ∃ o', PX w0 w' o' b la lb r lx ly s p S' S L xs M' M'.es ∧ headM S M'.es = (M'.sum, S') ∧ Mv [8, 6] w o w' o' := by
  have hA := h.asks rfl K hw hF he hx hN
  by_cases hk : checkM S 1 p M e = 0
  · unfold acceptM at hM
    rw [if_pos hk] at hM
    unfold addM at hM
    obtain ⟨rfl, rfl, rfl⟩ : 0 = k ∧ (S.get (.hash (bytesE e))).2 = S' ∧ (⟨M.es ++ [e], (S.get (.hash (bytesE e))).1⟩ : Lg) = M' := ⟨congrArg Prod.fst hM, congrArg (fun q => q.2.1) hM, congrArg (fun q => q.2.2) hM⟩
    refine (raccept_ok hA hx (by omega) hk).mono ?_
    rintro q w' ⟨rfl, o', h1, h2, h3⟩
    refine ⟨rfl, o', ⟨h.g.mvd h3 (by simp) (by simp) (by simp) (by simp), h.duo.mv h3 (by simp) (by simp) (Sub.refl _), h1, h.xlog.mv h3 (by simp) (by simp), h2⟩, ?_, h3⟩
    unfold headM
    rw [List.getLast?_append]
    rfl
  · rw [accept_bad hk] at hM
    obtain ⟨rfl, rfl, rfl⟩ : checkM S 1 p M e = k ∧ S = S' ∧ M = M' := ⟨congrArg Prod.fst hM, congrArg (fun q => q.2.1) hM, congrArg (fun q => q.2.2) hM⟩
    refine (raccept_bad hA hk).mono ?_
    rintro q w' ⟨rfl, o', h1, h3⟩
    exact ⟨rfl, o', ⟨h.g.mvd h3 (by simp) (by simp) (by simp) (by simp), h.duo.mv h3 (by simp) (by simp) (Sub.refl _), h1, h.xlog.mv h3 (by simp) (by simp), h.ylog.mv h3 (by simp) (by simp)⟩, (pend_full K hF hw).hd, h3.widen (by simp)⟩

theorem Whole.take {W : Int} (h : Whole S W p s L) (k : Nat) : Whole S W p s ⟨L.es.take k, sumOf S (L.es.take k)⟩ := by
  refine ⟨h.pub, rfl, fun i e hi => ?_⟩
  dsimp only at hi ⊢
  rw [List.getElem?_take] at hi
  split at hi
  · rename_i hik
    rw [List.take_take, Nat.min_eq_left (by omega)]
    exact h.each i e hi
  · cases hi

theorem PX.cut (h : PX w0 w o b la lb r lx ly s p S T L xs M ys) (n : Int) :
    Calls Try.prog 16 #[ptr lb, .int .i64 n] w fun q w' => ∃ v2 qs o', q = .returned v2 ∧ qs.map (·.1) = M.es.drop (cutK n M.es.length) ∧ RowE w' v2 qs ∧ Ents w' o' qs ∧ (∀ k, v2.ownBlock = some k → o' k = 0) ∧ PX w0 w' o' b la lb r lx ly s p S T L xs ⟨M.es.take (cutK n M.es.length), sumOf S (M.es.take (cutK n M.es.length))⟩ ys ∧ Mv [4] w o w' o' := by
  refine (pcut_any h.duo.log h.duo.whole (by omega) n).mono ?_
  rintro q w' ⟨v2, rfl, qs, o', h1, h2, h3, h4, h5, h6⟩
  exact ⟨v2, qs, o', rfl, h1, h2, h3, h4, ⟨h.g.mvd h6 (by simp) (by simp) (by simp) (by simp), ⟨h5, h.duo.whole.take _⟩, h.orc.mv h6 (by simp) (by simp), h.xlog.mv h6 (by simp) (by simp), h.ylog.mv h6 (by simp) (by simp)⟩, h6⟩

theorem PX.rcut (h : PX w0 w o b la lb r lx ly s p S T L xs M ys) (n : Int) :
    Calls Try.prog 17 #[ptr ly, .int .i64 n] w fun q w' => ∃ v2 qs o', q = .returned v2 ∧ qs.map (·.1) = ys.drop (cutK n ys.length) ∧ RowE w' v2 qs ∧ Ents w' o' qs ∧ PX w0 w' o' b la lb r lx ly s p S T L xs M (ys.take (cutK n ys.length)) ∧ Mv [6] w o w' o' := by
  refine (rcut_any h.ylog (by omega) n).mono ?_
  rintro q w' ⟨v2, rfl, qs, o', h1, h2, h3, h4, h5⟩
  exact ⟨v2, qs, o', rfl, h1, h2, h3, ⟨h.g.mvd h5 (by simp) (by simp) (by simp) (by simp), h.duo.mv h5 (by simp) (by simp) (Sub.refl _), h.orc.mv h5 (by simp) (by simp), h.xlog.mv h5 (by simp) (by simp), h4⟩, h5⟩
end
end
end Go.Proofs.Yteedjdflojfhmaa
