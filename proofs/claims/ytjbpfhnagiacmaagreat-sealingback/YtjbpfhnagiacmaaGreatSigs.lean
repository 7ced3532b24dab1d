/-
  The oracle's small methods: the next draw, whether a handle was handed out, the tables made.
  A fresh handle: the program's loop over draws, and behind their end over the numbers, finds the one that the list's definition tells; a thing put behind it.
  A thing put behind a fresh handle, and what stands behind a handle.
  A handle in eight bytes with bytes 0 behind it, and back.
  What stands behind bytes; the text of a signature.
  The text of a signature, and the handle of a text.
-/
import Derived.Test.YtjbpfhnagiacmaaGreatRowsF
import Derived.Deep.RegionWith
import Derived.Deep.WholeRow
namespace Go.Proofs.YtjbpfhnagiacmaaGreat
section
set_option linter.unusedVariables false
set_option synthInstance.maxSize 20000
open Go.RowKit Go.Maps
theorem IsO.turn {w w' : World} {b : Nat} {ft X : List Nat} {T : Tab} {dv m1 m2 m3 : Value} (h : IsO w b ft T dv m1 m2 m3) (ht : Turn X w w') (hX : ∀ k ∈ ft, k ∉ X) : IsO w' b ft T dv m1 m2 m3 := by
  have hb : ∀ k ∈ ft, w'.heap[k]? = w.heap[k]? := fun k hk => ht.block k (h.room k hk) (hX k hk)
  refine ⟨h.blk.block (hb b h.foot), h.foot, h.draws.block (fun k hk _ => hb k (h.apart k hk).1), h.apart, h.few, h.least, h.made, ?_, fun k hk => Nat.lt_of_lt_of_le (h.room k hk) ht.size⟩
  rcases h.maps with h0 | ⟨b1, b2, b3, n2, n3, e1, e2, e3, n12, n13, n23, f1, f2, f3, l2, l3, g1, g2, g3⟩
  · exact .inl h0
  · exact .inr ⟨b1, b2, b3, n2, n3, e1, e2, e3, n12, n13, n23, f1, f2, f3, l2, l3, g1.block (hb _ f1), g2.block (hb _ f2), g3.block (hb _ f3)⟩
theorem IsO.below {w w' : World} {b : Nat} {ft : List Nat} {T : Tab} {dv m1 m2 m3 : Value} (h : IsO w b ft T dv m1 m2 m3) (hb : Below w.heap.size w w') : IsO w' b ft T dv m1 m2 m3 := h.turn (X := []) (Turn.of_below hb) (fun _ _ h => by cases h)
def Tab.next (T : Tab) : Int × Tab := match T.draws with
  | [] => ((T.least : Int) + 1, { T with least := T.least + 1 })
  | d :: ds => (d, { T with draws := ds })
theorem IsO.setDraws {w : World} {b : Nat} {ft : List Nat} {T : Tab} {dv m1 m2 m3 dv' : Value} (h : IsO w b ft T dv m1 m2 m3) {ds : List Int} (hr : RdU w dv' ds) (ha : ∀ k, dv'.ownBlock = some k → dv.ownBlock = some k) :
    IsO (w.setCell ⟨b, 0, none⟩ dv') b ft { T with draws := ds } dv' m1 m2 m3 := by
  have hg := grown_setCell w b 0 dv'
  have hb : ∀ k ∈ ft, k ≠ b → (w.setCell ⟨b, 0, none⟩ dv').heap[k]? = w.heap[k]? := fun k hk hn => hg.block k (h.room k hk) (fun e => hn (by simpa using e))
  refine ⟨h.blk.set 0 dv', h.foot, hr.block (fun k hk _ => hb k (h.apart k (ha k hk)).1 (h.apart k (ha k hk)).2.1), fun k hk => h.apart k (ha k hk), h.few, h.least, h.made, ?_, fun k hk => by simpa using h.room k hk⟩
  rcases h.maps with h0 | ⟨b1, b2, b3, n2, n3, e1, e2, e3, n12, n13, n23, f1, f2, f3, l2, l3, g1, g2, g3⟩
  · exact .inl h0
  · have hne : ∀ {k n f} {c : TypeId}, MapF Tryz.prog c w k n f → k ≠ b := fun {k n f c} hm e => by
      obtain ⟨m, D, ⟨es, clock, he, _⟩, _⟩ := hm
      have := h.blk
      unfold Blk at this
      rw [← e, he] at this
      cases this
    exact .inr ⟨b1, b2, b3, n2, n3, e1, e2, e3, n12, n13, n23, f1, f2, f3, l2, l3, g1.block (hb _ f1 (hne g1)), g2.block (hb _ f2 (hne g2)), g3.block (hb _ f3 (hne g3))⟩
theorem IsO.setLeast {w : World} {b : Nat} {ft : List Nat} {T : Tab} {dv m1 m2 m3 : Value} (h : IsO w b ft T dv m1 m2 m3) {n : Nat} (hn : n ≤ T.us.length + 1) :
    IsO (w.setCell ⟨b, 1, none⟩ (.int .u64 n)) b ft { T with least := n } dv m1 m2 m3 := by
  have hg := grown_setCell w b 1 (.int .u64 n)
  have hb : ∀ k ∈ ft, k ≠ b → (w.setCell ⟨b, 1, none⟩ (.int .u64 n)).heap[k]? = w.heap[k]? := fun k hk hn => hg.block k (h.room k hk) (fun e => hn (by simpa using e))
  refine ⟨h.blk.set 1 _, h.foot, h.draws.block (fun k hk _ => hb k (h.apart k hk).1 (h.apart k hk).2.1), h.apart, h.few, hn, h.made, ?_, fun k hk => by simpa using h.room k hk⟩
  rcases h.maps with h0 | ⟨b1, b2, b3, n2, n3, e1, e2, e3, n12, n13, n23, f1, f2, f3, l2, l3, g1, g2, g3⟩
  · exact .inl h0
  · have hne : ∀ {k n f} {c : TypeId}, MapF Tryz.prog c w k n f → k ≠ b := fun {k n f c} hm e => by
      obtain ⟨m, D, ⟨es, clock, he, _⟩, _⟩ := hm
      have := h.blk
      unfold Blk at this
      rw [← e, he] at this
      cases this
    exact .inr ⟨b1, b2, b3, n2, n3, e1, e2, e3, n12, n13, n23, f1, f2, f3, l2, l3, g1.block (hb _ f1 (hne g1)), g2.block (hb _ f2 (hne g2)), g3.block (hb _ f3 (hne g3))⟩
theorem next_any (w : World) (b : Nat) (ft : List Nat) (T : Tab) (dv m1 m2 m3 : Value) (h : IsO w b ft T dv m1 m2 m3) (hl : T.draws = [] → T.least ≤ T.us.length) :
    Calls Tryz.prog 119 #[ptr b] w fun e w' => e = .returned (.int .u64 T.next.1) ∧ (∃ dv', IsO w' b ft T.next.2 dv' m1 m2 m3) ∧ Turn [b] w w' := by
  have H : Hid (IsO w b ft T dv m1 m2 m3) := h
  have c0 := h.blk.cell 0 _ rfl
  have c1 := h.blk.cell 1 _ rfl
  have f0 := h.blk.frozen 0
  have f1 := h.blk.frozen 1
  have hle := h.least
  have hfew := h.few
  have hd := h.draws
  clear h
  obtain ⟨draws, least, us, made, hashes, signed⟩ := T
  unfold Tab.next
  dsimp only at *
  cases draws with
  | nil =>
    have hl := hl rfl
    obtain ⟨_, a, cap, rfl, _⟩ := hd
    have hw : IntKind.u64.wrap ((least : Int) + 1) = (least : Int) + 1 := wraps_u64 _ (by omega) (by omega)
    go_enter Tryz.func119, Tryz.ntmps119
    go_wp2
    go_ret
    exact ⟨rfl, ⟨_, H.out.setLeast (n := least + 1) (by simp only; omega)⟩, Turn.of_grown (grown_setCell _ _ _ _) (by simp)⟩
  | cons d ds =>
    have HD : Hid (RdU w dv (d :: ds)) := hd
    obtain ⟨_, a, cap, rfl, hc1, hc2, hc3, hc4⟩ := hd
    obtain ⟨bb, off, rfl, hcell⟩ := hc4 (by simp)
    have hcd : w.cell? ⟨bb, off, none⟩ = some (.int .u64 d) := hcell 0 (by simp)
    clear hcell hc3 hc4 hl
    unfold maxLen at hc2
    simp only [List.length_cons] at hc1 c0 H HD
    by_cases hcap : cap = 1
    · subst hcap
      have hds : ds.length = 0 := by omega
      go_enter Tryz.func119, Tryz.ntmps119
      go_wp2
      go_ret
      refine ⟨rfl, ⟨_, H.out.setDraws ?_ ?_⟩, Turn.of_grown (grown_setCell _ _ _ _) (by simp)⟩
      · have := rdU_tail0 HD.out
        rwa [hds] at this
      · intro k hk; exact hk
    · go_enter Tryz.func119, Tryz.ntmps119
      go_wp2
      go_ret
      refine ⟨rfl, ⟨_, H.out.setDraws ?_ ?_⟩, Turn.of_grown (grown_setCell _ _ _ _) (by simp)⟩
      · have := rdU_tail HD.out hcap
        rwa [Option.map_some, Addr.add_lit] at this
      · intro k hk; exact hk
theorem law37 : Keyed Tryz.prog 26 := int_keyed (q := .u64) (by kernel_rfl)
theorem zero72 (w : World) : (zeroValue 109).run Tryz.prog w = .ok (thingVal noThing) w := by kernel_rfl
theorem wfU {h : Int} (hh : U64 h) : (Lit.int .u64 h).wf = true := WalkArith.wf_u64 (by unfold U64 at hh; omega)
theorem key37 {h : Int} (hh : U64 h) : keyOf Tryz.prog 26 (.int .u64 h) = some (.int .u64 h) := keyOf_int_mk (by kernel_rfl) (wfU hh)
theorem getD_thing (o : Option Thing) : (o.map thingVal).getD (thingVal noThing) = thingVal (o.getD noThing) := by cases o <;> rfl
def Tab.at (T : Tab) (g : Int) : Thing := (T.made g).getD noThing
theorem IsO.look {w : World} {b : Nat} {ft : List Nat} {T : Tab} {dv m1 m2 m3 : Value} (h : IsO w b ft T dv m1 m2 m3) {g : Int} (hg : U64 g) : (Instr.lookup 102 m1 (.int .u64 g) false).run Tryz.prog w = .ok (thingVal (T.at g)) w := by
  have hm := h.made g
  unfold Tab.at
  rcases h.maps with ⟨rfl, _, _, hus, _⟩ | ⟨b1, b2, b3, n2, n3, rfl, e2, e3, n12, n13, n23, f1, f2, f3, l2, l3, g1, g2, g3⟩
  · have hl := Go.Maps.look_nil (w := w) (t := 102) (e := 109) false law37 (by kernel_rfl) (zero72 w) (key37 hg)
    have hn : T.made g = none := by
      rw [hus] at hm
      simpa using hm
    rw [hl, hn]
    rfl
  · rw [g1.look (t := 102) (e := 109) law37 (by kernel_rfl) (zero72 w) (key37 hg), litI_at, getD_thing]
theorem IsO.look_ok {w : World} {b : Nat} {ft : List Nat} {T : Tab} {dv m1 m2 m3 : Value} (h : IsO w b ft T dv m1 m2 m3) {g : Int} (hg : U64 g) : (Instr.lookup 102 m1 (.int .u64 g) true).run Tryz.prog w = .ok (.tuple #[thingVal (T.at g), .bool (decide (g ∈ T.us))]) w := by
  have hm := h.made g
  unfold Tab.at
  rcases h.maps with ⟨rfl, _, _, hus, _⟩ | ⟨b1, b2, b3, n2, n3, rfl, e2, e3, n12, n13, n23, f1, f2, f3, l2, l3, g1, g2, g3⟩
  · have hl := Go.Maps.look_nil (w := w) (t := 102) (e := 109) true law37 (by kernel_rfl) (zero72 w) (key37 hg)
    have hn : T.made g = none := by
      rw [hus] at hm
      simpa using hm
    rw [hl, hn, hus]
    rfl
  · rw [g1.look_ok (t := 102) (e := 109) law37 (by kernel_rfl) (zero72 w) (key37 hg), litI_at, getD_thing, Option.isSome_map, hm]
set_option maxRecDepth 20000 in
theorem out_any (w : World) (b : Nat) (ft : List Nat) (T : Tab) (dv m1 m2 m3 : Value) (h : IsO w b ft T dv m1 m2 m3) (g : Int) (hg : U64 g) :
    Calls Tryz.prog 120 #[ptr b, .int .u64 g] w fun e w' => e = .returned (.bool (decide (g ∈ T.us))) ∧ Below w.heap.size w w' := by
  have c2 := h.blk.cell 2 _ rfl
  have hl := h.look_ok hg
  generalize decide (g ∈ T.us) = q at hl ⊢
  unfold thingVal at hl
  generalize T.at g = t at hl
  clear h
  go_enter Tryz.func120, Tryz.ntmps120
  go_wp2
  go_ret
  exact ⟨rfl, ((Below.refl _ _).alloc (Nat.le_refl _) _)⟩
theorem eql_map (w : World) (m : Option Nat) : (binOp .eql 102 (.map m) (.map none)).run Tryz.prog w = .ok (.bool m.isNone) w := by
  have hu : Tryz.prog.underlying 102 = some (.map 26 109) := by kernel_rfl
  have key : ∀ d, (Op.equalIn (d + 1) 102 (.map m) (.map none)).run Tryz.prog w = .ok m.isNone w := fun d => by
    cases m <;> simp [Op.equalIn, run_underlying hu, Result.andThen]
  have e1 : (binOp .eql 102 (.map m) (.map none)).run Tryz.prog w = ((Op.equalIn (9999 + 1) 102 (.map m) (.map none)).run Tryz.prog w).andThen fun b w' => .ok (.bool b) w' := by
    simp only [binOp]
    simp [Op.equal, Op.maxDepth]
  rw [e1, key]
  rfl
theorem wpList_makeMap {P : Program} {w : World} {ops : Array Oper} {rest : List Oper} {o : Oper} {a : Act} {Q : Exit → Act → World → Prop} (hg : o.guard = none) (t k : TypeId) (hop : o.op = Op.makeMap t none)
    (hK : ∀ w', MapF P k w' w.heap.size 0 (fun _ => none) → Below w.heap.size w w' → w'.heap.size = w.heap.size + 1 → wpList P ops Q rest (a.put o.dst (.map (some w.heap.size))) w') : wpList P ops Q (o :: rest) a w := by
  refine wpList_plain hg fun K' hK' => ?_
  have hrun := run_makeMap (P := P) t w
  unfold Oper.wp
  simp [execOp, hop, hrun, Result.andThen]
  exact hK' _ _ (hK _ (mapF_made w P k) ((Below.refl _ _).alloc (Nat.le_refl _) _) (by simp))
theorem isO_made {w w' : World} {b k1 k2 k3 : Nat} {ft : List Nat} {T : Tab} {dv : Value} (h : IsO w b ft T dv (.map none) (.map none) (.map none)) (hus : T.us = []) (hh : ∀ t, T.hashes t = none) (hs : ∀ t, T.signed t = none)
    (ht : Turn [b] w w') (hb : Blk w' b 105 [dv, .int .u64 T.least, .map (some k1), .map (some k2), .map (some k3)]) (h1 : w.heap.size ≤ k1) (h2 : k1 < k2) (h3 : k2 < k3)
    (g1 : MapF Tryz.prog 26 w' k1 0 (fun _ => none)) (g2 : MapF Tryz.prog 9 w' k2 0 (fun _ => none)) (g3 : MapF Tryz.prog 9 w' k3 0 (fun _ => none)) :
    IsO w' b (k1 :: k2 :: k3 :: ft) T dv (.map (some k1)) (.map (some k2)) (.map (some k3)) ∧ Of ft w (k1 :: k2 :: k3 :: ft) ∧ ∀ k ∈ ft, k ∈ (k1 :: k2 :: k3 :: ft) := by
  have e1 : litI T.made = fun _ => none := by
    funext l
    unfold litI
    split
    · rename_i g
      have := h.made g
      rw [hus] at this
      simp at this
      simp [this]
    · rfl
  have e2 : litS T.hashes = fun _ => none := by
    funext l
    unfold litS
    split
    · rw [hh]; rfl
    · rfl
  have e3 : litS T.signed = fun _ => none := by
    funext l
    unfold litS
    split
    · rw [hs]; rfl
    · rfl
  refine ⟨⟨hb, by simp [h.foot], h.draws.block (fun k hk hlt => ht.block k hlt (by simpa using (h.apart k hk).2.1)), fun k hk => ?_, h.few, h.least, h.made, ?_, fun k hk => ?_⟩, fun k hk => ?_, fun k hk => by simp [hk]⟩
  · have := h.room k (h.apart k hk).1
    refine ⟨by simp [(h.apart k hk).1], (h.apart k hk).2.1, ?_, ?_, ?_⟩ <;> (intro e; cases e; omega)
  · refine .inr ⟨k1, k2, k3, 0, 0, rfl, rfl, rfl, by omega, by omega, by omega, by simp, by simp, by simp, by simp, by simp, ?_, ?_, ?_⟩
    · rw [e1, hus]; exact g1
    · rw [e2]; exact g2
    · rw [e3]; exact g3
  · simp only [List.mem_cons] at hk
    rcases hk with rfl | rfl | rfl | hk
    · exact g1.lt
    · exact g2.lt
    · exact g3.lt
    · exact Nat.lt_of_lt_of_le (h.room k hk) ht.size
  · simp only [List.mem_cons] at hk
    rcases hk with rfl | rfl | rfl | hk
    · right; omega
    · right; omega
    · right; omega
    · exact .inl hk
set_option maxHeartbeats 1000000 in
set_option maxRecDepth 20000 in
theorem ready_any (w : World) (b : Nat) (ft : List Nat) (T : Tab) (dv m1 m2 m3 : Value) (h : IsO w b ft T dv m1 m2 m3) :
    Calls Tryz.prog 91 #[ptr b] w fun e w' => e = .returned (.tuple #[]) ∧ (∃ ft' b1 b2 b3, IsO w' b ft' T dv (.map (some b1)) (.map (some b2)) (.map (some b3)) ∧ Of ft w ft' ∧ ∀ k ∈ ft, k ∈ ft') ∧ Turn [b] w w' := by
  have c2 := h.blk.cell 2 _ rfl
  have H : Hid (IsO w b ft T dv m1 m2 m3) := h
  rcases h.maps with ⟨rfl, rfl, rfl, hus, hh, hs⟩ | ⟨b1, b2, b3, n2, n3, rfl, rfl, rfl, n12, n13, n23, f1, f2, f3, l2, l3, g1, g2, g3⟩
  · have hlt := h.blk.lt
    have hq := eql_map w none
    have X0 : Hid (Blk w b 105 [dv, .int .u64 T.least, .map none, .map none, .map none]) := h.blk
    have HU : Hid (T.us = [] ∧ (∀ t, T.hashes t = none) ∧ (∀ t, T.signed t = none)) := ⟨hus, hh, hs⟩
    clear h hus hh hs
    go_enter Tryz.func91, Tryz.ntmps91
    go_wp2_with (first
      | (refine wpList_makeMap rfl 102 26 rfl ?_; intro w1 hm1 hb1 hs1; have X1 : Hid (Blk w1 b 105 _) := X0.out.block (hb1.block b hlt); clear X0; have d2 := X1.out.cell 2 _ rfl; have q2 := X1.out.frozen 2; have HM1 : Hid (MapF Tryz.prog 26 w1 w.heap.size 0 fun _ => none) := hm1; clear hm1; have HB1 : Hid (Below w.heap.size w w1) := hb1; clear hb1)
      | (refine wpList_makeMap rfl 103 9 rfl ?_; intro w2 hm2 hb2 hs2; have hs2' : w2.heap.size = w.heap.size + 2 := (by rw [hs2]; simp; omega); have X2 : Hid (Blk w2 b 105 _) := (X1.out.set 2 (.map (some w.heap.size))).block (hb2.block b (by simp; omega)); clear X1; have d3 := X2.out.cell 3 _ rfl; have q3 := X2.out.frozen 3; have HM2 : Hid (MapF Tryz.prog 9 w2 _ 0 fun _ => none) := hm2; clear hm2; have HB2 : Hid (Below _ _ w2) := hb2; clear hb2)
      | (refine wpList_makeMap rfl 103 9 rfl ?_; intro w3 hm3 hb3 hs3; have X3 : Hid (Blk w3 b 105 _) := (X2.out.set 3 (.map (some (w.heap.size + 1)))).block (hb3.block b (by simp; omega)); clear X2; have d4 := X3.out.cell 4 _ rfl; have q4 := X3.out.frozen 4; have HM3 : Hid (MapF Tryz.prog 9 w3 _ 0 fun _ => none) := hm3; clear hm3; have HB3 : Hid (Below _ _ w3) := hb3; clear hb3))
    go_end0
    have hs3' : w3.heap.size = w.heap.size + 3 := by rw [hs3]; simp; omega
    have m1 : MapF Tryz.prog 26 w2 w.heap.size 0 (fun _ => none) := (HM1.out.block (Below.heap_setCell w1 ⟨b, 2, none⟩ (.map (some w.heap.size)) _ (by simp; omega))).block (HB2.out.block _ (by simp; omega))
    have m1' : MapF Tryz.prog 26 w3 w.heap.size 0 (fun _ => none) := (m1.block (Below.heap_setCell w2 ⟨b, 3, none⟩ (.map (some (w.heap.size + 1))) _ (by simp; omega))).block (HB3.out.block _ (by simp; omega))
    have m2 : MapF Tryz.prog 9 w2 (w.heap.size + 1) 0 (fun _ => none) := by have := HM2.out; simpa [hs1] using this
    have m2' : MapF Tryz.prog 9 w3 (w.heap.size + 1) 0 (fun _ => none) := (m2.block (Below.heap_setCell w2 ⟨b, 3, none⟩ (.map (some (w.heap.size + 1))) _ (by simp; omega))).block (HB3.out.block _ (by simp; omega))
    have m3' : MapF Tryz.prog 9 w3 (w.heap.size + 2) 0 (fun _ => none) := by have := HM3.out; simpa [hs2'] using this
    have hT : Turn [b] w (w3.setCell ⟨b, 4, none⟩ (.map (some (w.heap.size + 1 + 1)))) :=
      (((((Turn.of_below HB1.out).same (Turn.of_grown (grown_setCell w1 b 2 _) (by simp))).same (Turn.of_below HB2.out)).same (Turn.of_grown (grown_setCell w2 b 3 _) (by simp))).same (Turn.of_below HB3.out)).same (Turn.of_grown (grown_setCell w3 b 4 _) (by simp))
    obtain ⟨r1, r2, r3⟩ := isO_made H.out HU.out.1 HU.out.2.1 HU.out.2.2 hT (X3.out.set 4 (.map (some (w.heap.size + 1 + 1)))) (Nat.le_refl _) (by omega) (by omega)
      (m1'.block (Below.heap_setCell w3 ⟨b, 4, none⟩ _ _ (by simp; omega))) (m2'.block (Below.heap_setCell w3 ⟨b, 4, none⟩ _ _ (by simp; omega))) (m3'.block (Below.heap_setCell w3 ⟨b, 4, none⟩ _ _ (by simp; omega)))
    exact ⟨rfl, ⟨_, _, _, _, r1, r2, r3⟩, hT⟩
  · have hq := eql_map w (some b1)
    clear h g1 g2 g3
    go_enter Tryz.func91, Tryz.ntmps91
    go_wp2
    go_end0
    refine ⟨rfl, ⟨ft, b1, b2, b3, H.out, Of.refl _ _, fun k h => h⟩, Turn.refl _ _⟩
end
section
set_option linter.unusedVariables false
set_option synthInstance.maxSize 20000
open Go.RowKit Go.Maps
theorem IsO.ne {w : World} {b k n : Nat} {ft : List Nat} {T : Tab} {dv m1 m2 m3 : Value} {c : TypeId} {f : Lit → Option Value} (h : IsO w b ft T dv m1 m2 m3) (hm : MapF Tryz.prog c w k n f) : k ≠ b := fun e => by
  obtain ⟨m, D, ⟨es, clock, he, _⟩, _⟩ := hm
  have := h.blk
  unfold Blk at this
  rw [← e, he] at this
  cases this
theorem IsO.putMade {w w' : World} {b b1 b2 b3 : Nat} {ft : List Nat} {T : Tab} {dv : Value} (h : IsO w b ft T dv (.map (some b1)) (.map (some b2)) (.map (some b3))) (hg : w.grownBy w' (some b1)) {us' : List Int} {made' : Int → Option Thing}
    (hm : MapF Tryz.prog 26 w' b1 us'.length (litI made')) (hfew : us'.length < 1000000000) (hle : T.us.length ≤ us'.length) (hmade : ∀ h, (made' h).isSome = decide (h ∈ us')) :
    IsO w' b ft { T with us := us', made := made' } dv (.map (some b1)) (.map (some b2)) (.map (some b3)) := by
  rcases h.maps with ⟨e, _⟩ | ⟨b1, b2, b3, n2, n3, e1, e2, e3, n12, n13, n23, f1, f2, f3, l2, l3, g1, g2, g3⟩
  · cases e
  · cases e1; cases e2; cases e3
    have hb : ∀ k ∈ ft, k ≠ b1 → w'.heap[k]? = w.heap[k]? := fun k hk hn => hg.block k (h.room k hk) (fun e => hn (by simpa using e))
    refine ⟨h.blk.block (hb b h.foot (h.ne g1).symm), h.foot, h.draws.block (fun k hk _ => hb k (h.apart k hk).1 (fun e => (h.apart k hk).2.2.1 (by rw [e]))), h.apart, hfew, by have := h.least; simp only; omega, hmade, ?_, fun k hk => Nat.lt_of_lt_of_le (h.room k hk) hg.size⟩
    exact .inr ⟨b1, b2, b3, n2, n3, rfl, rfl, rfl, n12, n13, n23, f1, f2, f3, by simp only; omega, by simp only; omega, hm, g2.block (hb _ f2 n12.symm), g3.block (hb _ f3 n13.symm)⟩
theorem IsO.m1 {w : World} {b b1 b2 b3 : Nat} {ft : List Nat} {T : Tab} {dv : Value} (h : IsO w b ft T dv (.map (some b1)) (.map (some b2)) (.map (some b3))) : b1 ∈ ft ∧ MapF Tryz.prog 26 w b1 T.us.length (litI T.made) := by
  rcases h.maps with ⟨e, _⟩ | ⟨b1, b2, b3, n2, n3, e1, e2, e3, n12, n13, n23, f1, f2, f3, l2, l3, g1, g2, g3⟩
  · cases e
  · cases e1; cases e2; cases e3
    exact ⟨f1, g1⟩
theorem IsO.m2 {w : World} {b b1 b2 b3 : Nat} {ft : List Nat} {T : Tab} {dv : Value} (h : IsO w b ft T dv (.map (some b1)) (.map (some b2)) (.map (some b3))) : b2 ∈ ft ∧ ∃ n, n ≤ T.us.length ∧ MapF Tryz.prog 9 w b2 n (litS T.hashes) := by
  rcases h.maps with ⟨e, _⟩ | ⟨b1, b2, b3, n2, n3, e1, e2, e3, n12, n13, n23, f1, f2, f3, l2, l3, g1, g2, g3⟩
  · cases e
  · cases e1; cases e2; cases e3
    exact ⟨f2, n2, l2, g2⟩
theorem IsO.m3 {w : World} {b b1 b2 b3 : Nat} {ft : List Nat} {T : Tab} {dv : Value} (h : IsO w b ft T dv (.map (some b1)) (.map (some b2)) (.map (some b3))) : b3 ∈ ft ∧ ∃ n, n ≤ T.us.length ∧ MapF Tryz.prog 9 w b3 n (litS T.signed) := by
  rcases h.maps with ⟨e, _⟩ | ⟨b1, b2, b3, n2, n3, e1, e2, e3, n12, n13, n23, f1, f2, f3, l2, l3, g1, g2, g3⟩
  · cases e
  · cases e1; cases e2; cases e3
    exact ⟨f3, n3, l3, g3⟩
def Tab.full (T : Tab) : Prop := ∀ i : Int, 1 ≤ i → i ≤ T.least → i ∈ T.us
def left (b L : Nat) (w : World) : Nat :=
  (match w.cell? ⟨b, 0, none⟩ with | some (.slice _ n _) => n | _ => 0) + (L + 2 - (match w.cell? ⟨b, 1, none⟩ with | some (.int _ k) => k.toNat | _ => 0))
theorem IsO.left {w : World} {b : Nat} {ft : List Nat} {T : Tab} {dv m1 m2 m3 : Value} (h : IsO w b ft T dv m1 m2 m3) (L : Nat) : left b L w = T.draws.length + (L + 2 - T.least) := by
  unfold YtjbpfhnagiacmaaGreat.left
  rw [h.blk.cell 0 _ rfl, h.blk.cell 1 _ rfl]
  obtain ⟨_, a, cap, rfl, _⟩ := h.draws
  simp
def Tab.named (T : Tab) (n : Nat) : Tab := { T with draws := (freshOf T.us T.draws).2, least := n, us := T.us ++ [(freshOf T.us T.draws).1], made := fun x => if x = (freshOf T.us T.draws).1 then some noThing else T.made x }
theorem upd_made {T : Tab} {h : Int} (t : Thing) (hm : ∀ h, (T.made h).isSome = decide (h ∈ T.us)) : ∀ g, ((if g = h then some t else T.made g) : Option Thing).isSome = decide (g ∈ T.us ++ [h]) := fun g => by
  by_cases e : g = h
  · subst e; simp
  · rw [if_neg e, hm g]
    simp [e]
def Stands (us draws : List Int) (h : Int) (ds : List Int) (n : Nat) : Prop :=
  U64 h ∧ (freshOf us draws = if h = 0 ∨ h ∈ us then freshOf us ds else (h, ds)) ∧ (∀ i : Int, 1 ≤ i → i ≤ n → i ∈ us ∨ i = h) ∧ ∀ d ∈ ds, U64 d
theorem stands_next {us draws : List Int} (ds : List Int) (n : Nat) (hf : ∀ i : Int, 1 ≤ i → i ≤ n → i ∈ us) (hd : ∀ d ∈ ds, U64 d) (hN : us.length + 1 < 1000000000) (he : freshOf us draws = freshOf us ds)
    (made : Int → Option Thing) (hashes signed : List Int → Option Int) : Stands us draws (Tab.next ⟨ds, n, us, made, hashes, signed⟩).1 (Tab.next ⟨ds, n, us, made, hashes, signed⟩).2.draws (Tab.next ⟨ds, n, us, made, hashes, signed⟩).2.least := by
  have hp : n ≤ us.length := pigeon _ _ hf
  unfold Stands Tab.next
  cases ds with
  | nil =>
    simp only
    refine ⟨by unfold U64; omega, ?_, fun i h1 h2 => ?_, hd⟩
    · rw [he]
      split
      · rfl
      · rename_i hh
        simp only [freshOf]
        rw [leastFree_one (n := (n : Int) + 1) (by omega) (fun e => hh (.inr e)) (fun i h1 h2 => hf i h1 (by omega))]
    · by_cases e : i = (n : Int) + 1
      · exact .inr e
      · exact .inl (hf i h1 (by push_cast at h2; omega))
  | cons d ds =>
    simp only
    refine ⟨hd d (by simp), ?_, fun i h1 h2 => .inl (hf i h1 h2), fun x hx => hd x (List.mem_cons_of_mem _ hx)⟩
    rw [he]
    rfl
theorem next_us (ds : List Int) (n : Nat) (us : List Int) (made : Int → Option Thing) (hashes signed : List Int → Option Int) : (Tab.next ⟨ds, n, us, made, hashes, signed⟩).2 = ⟨(Tab.next ⟨ds, n, us, made, hashes, signed⟩).2.draws, (Tab.next ⟨ds, n, us, made, hashes, signed⟩).2.least, us, made, hashes, signed⟩ := by
  unfold Tab.next
  cases ds <;> rfl
theorem next_left (ds : List Int) (n : Nat) (us : List Int) (made : Int → Option Thing) (hashes signed : List Int → Option Int) (hn : n ≤ us.length) :
    (Tab.next ⟨ds, n, us, made, hashes, signed⟩).2.draws.length + (us.length + 2 - (Tab.next ⟨ds, n, us, made, hashes, signed⟩).2.least) < ds.length + (us.length + 2 - n) := by
  unfold Tab.next
  cases ds with
  | nil => simp only [List.length_nil]; omega
  | cons d ds => simp only [List.length_cons]; omega
theorem tv_none : thingVal noThing = .agg #[.int .i64 0, .int .u64 0, .int .u64 0, .int .i64 0, .string ⟨#[]⟩, .string ⟨#[]⟩] := rfl
set_option maxHeartbeats 1000000 in
set_option maxRecDepth 20000 in
theorem fresh_any (w : World) (b : Nat) (ft : List Nat) (T : Tab) (dv : Value) (b1 b2 b3 : Nat) (h : IsO w b ft T dv (.map (some b1)) (.map (some b2)) (.map (some b3))) (hf : T.full) (hN : T.us.length + 1 < 1000000000) :
    Calls Tryz.prog 92 #[ptr b] w fun e w' => e = .returned (.int .u64 (freshOf T.us T.draws).1) ∧ (∃ dv' n, IsO w' b ft (T.named n) dv' (.map (some b1)) (.map (some b2)) (.map (some b3)) ∧ (T.named n).full) ∧ Turn [b, b1] w w' := by
  have hdraws := h.draws.1
  have hp : T.least ≤ T.us.length := pigeon _ _ (fun i h1 h2 => hf i h1 h2)
  obtain ⟨draws, least, us, made, hashes, signed⟩ := T
  have HF : Hid (Tab.full ⟨draws, least, us, made, hashes, signed⟩) := hf
  dsimp only at *
  have H : Hid (IsO w b ft ⟨draws, least, us, made, hashes, signed⟩ dv (.map (some b1)) (.map (some b2)) (.map (some b3))) := h
  clear h hf
  go_enter Tryz.func92, Tryz.ntmps92
  go_wp2_with (go_at_call 119; go_must (refine (next_any _ b ft _ dv _ _ _ H.out (fun _ => hp)).mono ?_; rintro e w1 ⟨rfl, hx1, ht1⟩))
  obtain ⟨dv1, hx1⟩ := hx1
  rw [next_us] at hx1
  have hst := stands_next (draws := draws) draws least HF.out hdraws hN rfl made hashes signed
  generalize (Tab.next ⟨draws, least, us, made, hashes, signed⟩).2.draws = ds1 at hx1 hst
  generalize (Tab.next ⟨draws, least, us, made, hashes, signed⟩).2.least = n1 at hx1 hst
  generalize (Tab.next ⟨draws, least, us, made, hashes, signed⟩).1 = h1 at hst ⊢
  go_loopw [3] (fun v wr => ∃ (h : Int) (ds : List Int) (n : Nat) (dv' : Value), v = .int .u64 h ∧ Hid (IsO wr b ft ⟨ds, n, us, made, hashes, signed⟩ dv' (.map (some b1)) (.map (some b2)) (.map (some b3))) ∧ Hid (Turn [b] w wr) ∧ Hid (Stands us draws h ds n)) (fun _ wr => left b us.length wr)
  case atStart => exact ⟨h1, ds1, n1, dv1, rfl, hx1, ht1, hst⟩
  case round =>
    obtain ⟨h, ds, n, dv', rfl, hi, ht, hs⟩ := hrel
    clear hx1 ht1 hst H
    have hU := hs.out.1
    by_cases hbad : h = 0 ∨ h ∈ us
    · have hfl : ∀ i : Int, 1 ≤ i → i ≤ n → i ∈ us := fun i h1 h2 => by
        rcases hs.out.2.2.1 i h1 h2 with r | r
        · exact r
        · subst r
          rcases hbad with r | r
          · omega
          · exact r
      have hnp : n ≤ us.length := pigeon _ _ hfl
      have he : freshOf us draws = freshOf us ds := by rw [hs.out.2.1, if_pos hbad]
      have HX : Hid (freshOf us draws = freshOf us ds ∧ ∀ i : Int, 1 ≤ i → i ≤ n → i ∈ us) := ⟨he, hfl⟩
      clear he hfl
      by_cases h0 : h = 0
      · subst h0
        clear hbad hU
        go_wp2_with (go_at_call 119; go_must (refine (next_any _ b ft _ dv' _ _ _ hi.out (fun _ => hnp)).mono ?_; rintro e w2 ⟨rfl, hx2, ht2⟩))
        obtain ⟨dv2, hx2⟩ := hx2
        go_roundw
        case rel => exact ⟨_, _, _, dv2, rfl, (next_us ds n us made hashes signed) ▸ hx2, ht.out.same ht2, stands_next ds n HX.out.2 hs.out.2.2.2 hN HX.out.1 made hashes signed⟩
        case measure =>
          rw [hx2.left us.length, hi.out.left us.length]
          exact next_left ds n us made hashes signed hnp
      · have hmem : h ∈ us := hbad.resolve_left h0
        have h0' : (h == 0) = false := by simpa using h0
        clear hbad h0
        go_wp2_with (first | (go_at_call 120; go_must (refine (out_any _ b ft _ dv' _ _ _ hi.out h hU).mono ?_; rintro e w3 ⟨rfl, hb3⟩; dsimp only; rw [decide_eq_true hmem])) | (go_at_call 119; go_must (refine (next_any _ b ft _ dv' _ _ _ (hi.out.below hb3) (fun _ => hnp)).mono ?_; rintro e w2 ⟨rfl, hx2, ht2⟩)))
        obtain ⟨dv2, hx2⟩ := hx2
        go_roundw
        case rel => exact ⟨_, _, _, dv2, rfl, (next_us ds n us made hashes signed) ▸ hx2, (ht.out.same (Turn.of_below hb3)).same ht2, stands_next ds n HX.out.2 hs.out.2.2.2 hN HX.out.1 made hashes signed⟩
        case measure =>
          rw [hx2.left us.length, hi.out.left us.length]
          exact next_left ds n us made hashes signed hnp
    · have h0' : (h == 0) = false := by simpa using fun e => hbad (.inl e)
      have hmem : h ∉ us := fun e => hbad (.inr e)
      have he : freshOf us draws = (h, ds) := by rw [hs.out.2.1, if_neg hbad]
      have HE : Hid (freshOf us draws = (h, ds)) := he
      clear hbad he
      go_wp2_with (first
        | (go_at_call 120; go_must (refine (out_any _ b ft _ dv' _ _ _ hi.out h hU).mono ?_; rintro e w3 ⟨rfl, hb3⟩; dsimp only; rw [decide_eq_false hmem]; have hi3 := hi.out.below hb3; have c2 := hi3.blk.cell 2 _ rfl; have hm1 : Hid (b1 ∈ ft ∧ MapF Tryz.prog 26 w3 b1 us.length (litI made)) := hi3.m1; have hi3 : Hid (IsO w3 b ft ⟨ds, n, us, made, hashes, signed⟩ dv' (.map (some b1)) (.map (some b2)) (.map (some b3))) := hi3))
        | (refine wpList_store rfl _ _ _ 102 rfl 109 law37 (by kernel_rfl) hm1.out.2 (by unfold maxLen; omega) rfl _ (thingVal noThing) _ rfl rfl (key37 hU) ?_; intro w4 hm4 hg4))
      go_ret
      rw [HE.out]
      have hnone : made h = none := by
        have := hi3.out.made h
        dsimp only at this
        rw [decide_eq_false hmem] at this
        simpa using this
      rw [litI_at, hnone] at hm4
      simp only [Option.map_none, Option.isSome_none, Bool.false_eq_true, if_false] at hm4
      rw [litI_upd] at hm4
      refine ⟨rfl, ⟨dv', n, ?_, ?_⟩, ?_⟩
      · unfold Tab.named
        rw [HE.out]
        refine hi3.out.putMade hg4 (us' := us ++ [h]) (made' := fun x => if x = h then some noThing else made x) (by simpa using hm4) (by simpa using hN) (by simp) (upd_made (T := ⟨ds, n, us, made, hashes, signed⟩) noThing hi3.out.made)
      · unfold Tab.full Tab.named
        rw [HE.out]
        intro i h1 h2
        rcases hs.out.2.2.1 i h1 h2 with r | r
        · simp [r]
        · simp [r]
      · exact ((ht.out.widen (by simp)).same (Turn.of_below hb3)).same (Turn.of_grown hg4 (by simp))
end
section
set_option linter.unusedVariables false
set_option synthInstance.maxSize 20000
open Classical
open Go.RowKit Go.Maps
def Tab.puts (T : Tab) (n : Nat) (t : Thing) : Tab := { T with draws := (freshOf T.us T.draws).2, least := n, us := T.us ++ [(freshOf T.us T.draws).1], made := fun x => if x = (freshOf T.us T.draws).1 then some t else T.made x }
theorem MapF.drew {P : Program} {k : TypeId} {w : World} {b n : Nat} {f : Lit → Option Value} (h : MapF P k w b n f) : MapF P k w.drew b n f := h.block rfl
theorem IsO.drew {w : World} {b : Nat} {ft : List Nat} {T : Tab} {dv m1 m2 m3 : Value} (h : IsO w b ft T dv m1 m2 m3) : IsO w.drew b ft T dv m1 m2 m3 := h.turn (X := []) ((Turn.refl [] w).drew) (fun _ _ h => by cases h)
theorem IsO.puts {w w' : World} {b b1 b2 b3 n : Nat} {ft : List Nat} {T : Tab} {dv : Value} {t : Thing} (h : IsO w b ft (T.named n) dv (.map (some b1)) (.map (some b2)) (.map (some b3))) (hg : w.grownBy w' (some b1))
    (hm : MapF Tryz.prog 26 w' b1 (if (litI (T.named n).made (.int .u64 (freshOf T.us T.draws).1)).isSome then (T.named n).us.length else (T.named n).us.length + 1) (upd (litI (T.named n).made) (.int .u64 (freshOf T.us T.draws).1) (thingVal t)))
    (hm0 : ∀ h, (T.made h).isSome = decide (h ∈ T.us)) : IsO w' b ft (T.puts n t) dv (.map (some b1)) (.map (some b2)) (.map (some b3)) := by
  have e1 : (litI (T.named n).made (.int .u64 (freshOf T.us T.draws).1)).isSome = true := by
    rw [litI_at]
    simp [Tab.named]
  rw [e1, if_pos rfl, litI_upd] at hm
  have e2 : (fun x => if x = (freshOf T.us T.draws).1 then some t else (T.named n).made x) = fun x => if x = (freshOf T.us T.draws).1 then some t else T.made x := by
    funext x
    by_cases e : x = (freshOf T.us T.draws).1
    · simp [e]
    · simp [Tab.named, e]
  rw [e2] at hm
  exact h.putMade hg hm h.few (Nat.le_refl _) (upd_made t hm0)
set_option maxHeartbeats 1000000 in
set_option maxRecDepth 20000 in
theorem put_any (w : World) (b : Nat) (ft : List Nat) (T : Tab) (dv m1 m2 m3 : Value) (t : Thing) (h : IsO w b ft T dv m1 m2 m3) (hf : T.full) (hN : T.us.length + 1 < 1000000000) (hd : ∀ d ∈ T.draws, U64 d) :
    Calls Tryz.prog 51 #[ptr b, thingVal t] w fun e w' => e = .returned (.int .u64 (freshOf T.us T.draws).1) ∧
      (∃ ft' dv' n b1 b2 b3, IsO w' b ft' (T.puts n t) dv' (.map (some b1)) (.map (some b2)) (.map (some b3)) ∧ (T.puts n t).full ∧ Of ft w ft' ∧ ∀ k ∈ ft, k ∈ ft') ∧ Turn ft w w' := by
  have H : Hid (IsO w b ft T dv m1 m2 m3) := h
  have hm0 := h.made
  have hfr : Hid (U64 (freshOf T.us T.draws).1) := (freshOf_spec T.us T.draws hd (by omega)).2.2.1
  have ht0 : thingVal t = .agg #[.int .i64 t.use, .int .u64 t.secret, .int .u64 t.key, .int .i64 t.zeros, .string (strOfNums t.bound), .string (strOfNums t.plain)] := rfl
  rw [ht0]
  clear h
  go_enter Tryz.func51, Tryz.ntmps51
  go_wp2_with (first
    | (go_at_call 91; go_must (refine (ready_any _ b ft T dv m1 m2 m3 (H.out.below ((Below.refl _ _).alloc (Nat.le_refl _) _))).mono ?_; rintro e w1 ⟨rfl, ⟨ft1, b1, b2, b3, h1, hof1, hsub1⟩, ht1⟩))
    | (go_at_call 92; go_must (refine (fresh_any _ b ft1 T dv b1 b2 b3 h1 hf hN).mono ?_; rintro e w2 ⟨rfl, ⟨dv2, n2, h2, hf2⟩, ht2⟩)))
  have hb1 := h1.m1.1
  have hlt : b < w.heap.size := H.out.room b H.out.foot
  have hn1 : w.heap.size ≠ b1 := fun e => by
    rcases hof1 b1 hb1 with r | r
    · have := H.out.room b1 r; omega
    · simp at r; omega
  have X0 : Blk (w.alloc (.cells #[.int .i64 t.use, .int .u64 t.secret, .int .u64 t.key, .int .i64 t.zeros, .string (strOfNums t.bound), .string (strOfNums t.plain)] 109)) w.heap.size 109 [.int .i64 t.use, .int .u64 t.secret, .int .u64 t.key, .int .i64 t.zeros, .string (strOfNums t.bound), .string (strOfNums t.plain)] := heap_alloc_new w _
  have X1 := X0.block (ht1.block _ (by simp) (by simp; omega))
  have X2 := X1.block (ht2.block _ (X1.lt) (by simp; omega))
  have k0 := X2.cell 0 _ rfl
  have k1 := X2.cell 1 _ rfl
  have k2 := X2.cell 2 _ rfl
  have k3 := X2.cell 3 _ rfl
  have k4 := X2.cell 4 _ rfl
  have k5 := X2.cell 5 _ rfl
  have c2 := h2.blk.cell 2 _ rfl
  obtain ⟨wa, ra, ma, ga⟩ := (h2.m1.2.drew).store (val := thingVal t) law37 (t := 102) (e := 109) (by kernel_rfl) (by have := h2.few; unfold maxLen; omega) (key37 hfr.out)
  obtain ⟨wb, rb, mb, gb⟩ := (h2.m1.2.drew.drew).store (val := thingVal t) law37 (t := 102) (e := 109) (by kernel_rfl) (by have := h2.few; unfold maxLen; omega) (key37 hfr.out)
  obtain ⟨wc, rc, mc, gc⟩ := (h2.m1.2.drew.drew.drew).store (val := thingVal t) law37 (t := 102) (e := 109) (by kernel_rfl) (by have := h2.few; unfold maxLen; omega) (key37 hfr.out)
  rw [ht0] at ra rb rc
  have H2 : Hid (IsO w2 b ft1 (T.named n2) dv2 (.map (some b1)) (.map (some b2)) (.map (some b3))) := h2
  have HT : Hid (Turn ft w w2) := by
    have := (((Turn.refl ft w).alloc (.cells #[.int .i64 t.use, .int .u64 t.secret, .int .u64 t.key, .int .i64 t.zeros, .string (strOfNums t.bound), .string (strOfNums t.plain)] 109)).trans ht1 (fun k hk => .inl (by simp at hk; rw [hk]; exact H.out.foot))).trans ht2 (fun k hk => by
      simp at hk
      rcases hk with rfl | rfl
      · exact .inl H.out.foot
      · rcases hof1 k hb1 with r | r
        · exact .inl r
        · right; simp at r; omega)
    exact this
  have HMA : Hid _ := ma
  have HMB : Hid _ := mb
  have HMC : Hid _ := mc
  have HO : Hid (Of ft w ft1) := fun k hk => by
    rcases hof1 k hk with r | r
    · exact .inl r
    · right; simp at r; omega
  clear ma mb mc h1 h2 X0 X1 X2 ht1 ht2 hof1
  have HB : Hid (Of ft w [b1]) := fun k hk => by simp at hk; rw [hk]; exact HO.out b1 hb1
  go_region
  all_goals go_wp2
  all_goals go_ret
  all_goals
    refine ⟨rfl, ⟨ft1, dv2, n2, b1, b2, b3, ?_, hf2, HO.out, hsub1⟩, ?_⟩
    · first
      | exact H2.out.drew.puts ga HMA.out hm0
      | exact H2.out.drew.drew.puts gb HMB.out hm0
      | exact H2.out.drew.drew.drew.puts gc HMC.out hm0
    · first
      | exact HT.out.drew.trans (Turn.of_grown ga (List.mem_singleton.2 rfl)) HB.out
      | exact HT.out.drew.drew.trans (Turn.of_grown gb (List.mem_singleton.2 rfl)) HB.out
      | exact HT.out.drew.drew.drew.trans (Turn.of_grown gc (List.mem_singleton.2 rfl)) HB.out
theorem strList {a b : List Int} (ha : Oct a) (hb : Oct b) : ((strOfNums a).toList = (strOfNums b).toList) ↔ a = b := by
  have := strEq ha hb
  rw [← beq_iff_eq, this, decide_eq_true_iff]
theorem eq_thing (w : World) (t s : Thing) (ht : Oct t.bound ∧ Oct t.plain) (hs : Oct s.bound ∧ Oct s.plain) : (binOp .eql 109 (thingVal t) (thingVal s)).run Tryz.prog w = .ok (.bool (decide (t = s))) w := by
  have hS : Tryz.prog.underlying 109 = some (.struct (Tryz.prog.fieldsOf 109)) := by kernel_rfl
  have hp : Tryz.prog.stoodInHeld 109 = false := by kernel_rfl
  unfold thingVal
  rw [run_eql_struct, show (10000 : Nat) = 9999 + 1 from rfl, run_equalIn_agg w 9999 109 _ _ hS hp]
  simp only [Program.fieldsOf, Tryz.underlying109]
  go_simp
  obtain ⟨a1, a2, a3, a4, a5, a6⟩ := t
  obtain ⟨c1, c2, c3, c4, c5, c6⟩ := s
  simp only [strList ht.1 hs.1, strList ht.2 hs.2, Thing.mk.injEq] at *
  have e4 : ((a4 : Int) = (c4 : Int)) ↔ a4 = c4 := by omega
  simp only [e4]
  by_cases h1 : a1 = c1 <;> by_cases h2 : a2 = c2 <;> by_cases h3 : a3 = c3 <;> by_cases h4 : a4 = c4 <;> by_cases h5 : a5 = c5 <;> by_cases h6 : a6 = c6 <;> simp [h1, h2, h3, h4, h5, h6]
section
variable {w : World} {ops : Array Oper} {rest : List Oper} {o : Oper} {a : Act} {Q : Exit → Act → World → Prop}
theorem wpList_eqlT (hg : o.guard = none) (x y : Operand) (r : TypeId) (hop : o.op = Op.binOp .eql 109 x y r) (t s : Thing) (hx : a.eval x = thingVal t) (hy : a.eval y = thingVal s) (ht : Oct t.bound ∧ Oct t.plain) (hs : Oct s.bound ∧ Oct s.plain)
    (hK : wpList Tryz.prog ops Q rest (a.put o.dst (.bool (decide (t = s)))) w) : wpList Tryz.prog ops Q (o :: rest) a w := by
  refine wpList_plain hg fun K' hK' => ?_
  have hgd : (eqGuard .eql 109 x y (thingVal t) (thingVal s)).run Tryz.prog w = .ok () w := run_eqGuard_agg w _ 109 x y _ _ (by kernel_rfl)
  unfold Oper.wp
  simp [execOp, hop, hx, hy, hgd, eq_thing w t s ht hs, Result.andThen]
  exact hK' _ _ hK
end
end
section
set_option linter.unusedVariables false
set_option synthInstance.maxSize 20000
open Classical
open Go.RowKit Go.Maps
theorem bytes5 : ByteTy Tryz.prog 25 5 := ⟨by kernel_rfl, by kernel_rfl⟩
def byteAt (h : Int) (k : Nat) : Int := h / 2 ^ (8 * k) % 256
def pre (h : Int) (z : Nat) : Nat → List Int
  | 0 => List.replicate (8 + z) 0
  | k + 1 => (pre h z k).set (7 - k) (byteAt h k)
theorem pre_length (h : Int) (z : Nat) : ∀ k, (pre h z k).length = 8 + z
  | 0 => by simp [pre]
  | k + 1 => by simp [pre, pre_length h z k]
theorem pre_8 (h : Int) (z : Nat) : pre h z 8 = boxOf h z := by
  have e : List.replicate (8 + z) (0 : Int) = 0 :: 0 :: 0 :: 0 :: 0 :: 0 :: 0 :: 0 :: List.replicate z 0 := by
    rw [Nat.add_comm]; rfl
  simp only [pre, e, boxOf, be8, byteAt]
  simp
theorem cs8_set (l : List Int) (j : Nat) (x : Int) : (cs8 l).set j (.int .u8 x) = cs8 (l.set j x) := by simp [cs8, List.map_set]
theorem own_blk {w : World} {B : Nat} {l : List Int} {e : TypeId} (h : Blk w B e (cs8 l)) (ho : Oct l) (hl : l.length ≤ maxLen) : Own B e w (.slice (some ⟨B, 0, none⟩) l.length l.length) l :=
  ⟨ho, by simp [cs8], .inr ⟨B, l.length, (cs8 l).toArray, rfl, Nat.le_refl _, h, Nat.le_refl _, hl, by simp [cs8], by rw [show (cs8 l).toArray.toList = cs8 l by simp, Nat.mul_one, List.take_of_length_le (by rw [cs8_length]; exact Nat.le_refl _)]⟩⟩
set_option maxHeartbeats 1000000 in
set_option maxRecDepth 20000 in
theorem form_any (h : Int) (z : Nat) (w : World) (hh : U64 h) (hz : z ≤ 2000) :
    Calls Tryz.prog 77 #[.int .u64 h, .int .i64 z] w fun e w' => ∃ v', e = .returned v' ∧ Own w.heap.size 5 w' v' (boxOf h z) ∧ Below w.heap.size w w' := by
  have HU : Hid (U64 h) := hh
  clear hh
  have hlen : (boxOf h z).length = 8 + z := boxOf_length h z
  go_enter Tryz.func77, Tryz.ntmps77
  go_wp2_with (refine wpList_make_bytes 25 5 bytes5 rfl _ _ rfl .i64 .i64 _ _ (8 + z) (8 + z) rfl rfl (by go_num) (by go_num) (Nat.le_refl _) (by omega) ?_)
  go_loopw [10] (fun v wr => ∃ k : Nat, k ≤ 8 ∧ v = .int .i64 k ∧ Hid (Blk wr w.heap.size 5 (cs8 (pre h z k))) ∧ Hid (Below w.heap.size w wr)) (fun v _ => 8 - (intOf v).toNat)
  case atStart => exact ⟨0, by omega, rfl, heap_alloc_new w _, (Below.refl _ _).alloc (Nat.le_refl _) _⟩
  case round =>
    obtain ⟨k, hk, rfl, hb, hbl⟩ := hrel
    by_cases h8 : k < 8
    · have hl := pre_length h z k
      have c0 := hb.out.cell (7 - k) _ (cs8_at (pre h z k) (7 - k) (by omega))
      have f0 := hb.out.frozen (7 - k)
      have e1 : (7 : Int) - (k : Int) = ((7 - k : Nat) : Int) := by omega
      go_wp2
      go_roundw
      case rel =>
        refine ⟨k + 1, by omega, by go_num, ?_, ?_⟩
        · have := hb.out.set (7 - k) (.int .u8 (h / 2 ^ (8 * k) % 256))
          rw [cs8_set] at this
          exact this
        · exact hbl.out.setCell (Nat.le_refl _) _
      case measure => simp [intOf]; omega
    · obtain rfl : k = 8 := by omega
      go_wp2
      go_ret
      refine ⟨_, rfl, ?_, hbl.out⟩
      have := hb.out
      rw [pre_8] at this
      have r := own_blk this ((be8_oct h).append (Oct.zeros z)) (by rw [hlen]; unfold maxLen; omega)
      rw [hlen] at r
      exact r
def upTo (l : List Int) (k : Nat) : Int := (l.take k).foldl (fun n x => n * 256 + x) 0
theorem upTo_succ {l : List Int} {k : Nat} (h : k < l.length) : upTo l (k + 1) = upTo l k * 256 + l.getD k 0 := by
  unfold upTo
  rw [List.take_succ_eq_append_getElem h, List.foldl_append]
  simp [h]
theorem upTo_bound {l : List Int} (ho : Oct l) : ∀ k, k ≤ l.length → 0 ≤ upTo l k ∧ upTo l k < 256 ^ k
  | 0, _ => by simp [upTo]
  | k + 1, h => by
    have := upTo_bound ho k (by omega)
    rw [upTo_succ (by omega), Int.pow_succ]
    have hx := ho.at k
    omega
theorem or8 (a x : Int) (h0 : 0 ≤ a) (h1 : a < 72057594037927936) (hx : 0 ≤ x ∧ x < 256) : bits .or .u64 (IntKind.u64.wrap (a * 256)) x = a * 256 + x := by
  rw [wraps_u64 _ (by omega) (by omega)]
  exact bits_join .u64 64 (by decide) wraps_u64 8 (a * 256) x (by omega) (by omega) (by omega) hx.1 (by omega) (by omega)
end
section
set_option linter.unusedVariables false
set_option synthInstance.maxSize 20000
open Classical
open Go.RowKit Go.Maps
def headOf (l : List Int) : Int := if l.length < 8 then 0 else ofBe8 l
theorem headOf_U64 {l : List Int} (ho : Oct l) : U64 (headOf l) := by
  unfold headOf
  split
  · exact ⟨by omega, by omega⟩
  · exact ofBe8_U64 l ho
def Tab.find (T : Tab) (u : Int) (l : List Int) : Thing × Bool := if (T.at (headOf l)).use = u ∧ l = boxOf (headOf l) (T.at (headOf l)).zeros then (T.at (headOf l), true) else (noThing, false)
theorem blk2_0 (w : World) (c d : List Value) (e1 e2 : TypeId) : Blk ((w.alloc (.cells c.toArray e1)).alloc (.cells d.toArray e2)) w.heap.size e1 c := by
  unfold Blk
  rw [(MapKept.heap_alloc (w.alloc (.cells c.toArray e1)) (.cells d.toArray e2)).2 w.heap.size (by simp)]
  exact heap_alloc_new w _
theorem blk2_1 (w : World) (c d : List Value) (e1 e2 : TypeId) : Blk ((w.alloc (.cells c.toArray e1)).alloc (.cells d.toArray e2)) (w.heap.size + 1) e2 d := by
  have := heap_alloc_new (w.alloc (.cells c.toArray e1)) (.cells d.toArray e2)
  simpa [Blk] using this
end
section
set_option linter.unusedVariables false
set_option synthInstance.maxSize 20000
open Classical
open Go.RowKit Go.Maps
theorem toStr (w : World) (v : Value) (l : List Int) (hv : Rd w v l) : (convert 25 9 v).run Tryz.prog w = .ok (.string (strOfNums l)) w :=
  run_convert_rd w 25 9 5 (by kernel_rfl) (by kernel_rfl) (by kernel_rfl) v l hv
end
end Go.Proofs.YtjbpfhnagiacmaaGreat
