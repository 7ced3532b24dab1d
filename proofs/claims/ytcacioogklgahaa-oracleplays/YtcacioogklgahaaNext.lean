/-
  The oracle's small methods: the next draw, whether a handle was handed out, the tables made.
-/
import Derived.Test.YtcacioogklgahaaTab
namespace Go.Proofs.Ytcacioogklgahaa
set_option linter.unusedVariables false
set_option synthInstance.maxSize 20000
open Go.RowKit Go.Maps

/-- The oracle stands while other blocks are written. -/
theorem IsO.turn {w w' : World} {b : Nat} {ft X : List Nat} {T : Tab} {dv m1 m2 m3 : Value} (h : IsO w b ft T dv m1 m2 m3) (ht : Turn X w w') (hX : ∀ k ∈ ft, k ∉ X) : IsO w' b ft T dv m1 m2 m3 := by
  have hb : ∀ k ∈ ft, w'.heap[k]? = w.heap[k]? := fun k hk => ht.block k (h.room k hk) (hX k hk)
  refine ⟨h.blk.block (hb b h.foot), h.foot, h.draws.block (fun k hk _ => hb k (h.apart k hk).1), h.apart, h.few, h.least, h.made, ?_, fun k hk => Nat.lt_of_lt_of_le (h.room k hk) ht.size⟩
  rcases h.maps with h0 | ⟨b1, b2, b3, n2, n3, e1, e2, e3, n12, n13, n23, f1, f2, f3, l2, l3, g1, g2, g3⟩
  · exact .inl h0
  · exact .inr ⟨b1, b2, b3, n2, n3, e1, e2, e3, n12, n13, n23, f1, f2, f3, l2, l3, g1.block (hb _ f1), g2.block (hb _ f2), g3.block (hb _ f3)⟩
theorem IsO.below {w w' : World} {b : Nat} {ft : List Nat} {T : Tab} {dv m1 m2 m3 : Value} (h : IsO w b ft T dv m1 m2 m3) (hb : Below w.heap.size w w') : IsO w' b ft T dv m1 m2 m3 := h.turn (X := []) (Turn.of_below hb) (fun _ _ h => by cases h)

/-- The next number, and the state behind it. -/
def Tab.next (T : Tab) : Int × Tab := match T.draws with
  | [] => ((T.least : Int) + 1, { T with least := T.least + 1 })
  | d :: ds => (d, { T with draws := ds })

/-- A cell of the oracle's own block is written. -/
theorem IsO.setDraws {w : World} {b : Nat} {ft : List Nat} {T : Tab} {dv m1 m2 m3 dv' : Value} (h : IsO w b ft T dv m1 m2 m3) {ds : List Int} (hr : RdU w dv' ds) (ha : ∀ k, dv'.ownBlock = some k → dv.ownBlock = some k) :
    IsO (w.setCell ⟨b, 0, none⟩ dv') b ft { T with draws := ds } dv' m1 m2 m3 := by
  have hg := grown_setCell w b 0 dv'
  have hb : ∀ k ∈ ft, k ≠ b → (w.setCell ⟨b, 0, none⟩ dv').heap[k]? = w.heap[k]? := fun k hk hn => hg.block k (h.room k hk) (fun e => hn (by simpa using e))
  refine ⟨h.blk.set 0 dv', h.foot, hr.block (fun k hk _ => hb k (h.apart k (ha k hk)).1 (h.apart k (ha k hk)).2.1), fun k hk => h.apart k (ha k hk), h.few, h.least, h.made, ?_, fun k hk => by simpa using h.room k hk⟩
  rcases h.maps with h0 | ⟨b1, b2, b3, n2, n3, e1, e2, e3, n12, n13, n23, f1, f2, f3, l2, l3, g1, g2, g3⟩
  · exact .inl h0
  · have hne : ∀ {k n f} {c : TypeId}, MapF Try.prog c w k n f → k ≠ b := fun {k n f c} hm e => by
      obtain ⟨m, D, ⟨es, clock, he, _⟩, _⟩ := hm
      have := h.blk
      unfold Blk at this
      rw [← e, he] at this
      cases this
    exact .inr ⟨b1, b2, b3, n2, n3, e1, e2, e3, n12, n13, n23, f1, f2, f3, l2, l3, g1.block (hb _ f1 (hne g1)), g2.block (hb _ f2 (hne g2)), g3.block (hb _ f3 (hne g3))⟩
theorem IsO.setLeast {w : World} {b : Nat} {ft : List Nat} {T : Tab} {dv m1 m2 m3 : Value} (h : IsO w b ft T dv m1 m2 m3) {n : Nat} (hn : n ≤ T.us.length + 1) :
    IsO (w.setCell ⟨b, 1, none⟩ (.int .u64 n)) b ft { T with least := n } dv m1 m2 m3 := by
  have hg := grown_setCell w b 1 (.int .u64 n)
  have hb : ∀ k ∈ ft, k ≠ b → (w.setCell ⟨b, 1, none⟩ (.int .u64 n)).heap[k]? = w.heap[k]? := fun k hk hn => hg.block k (h.room k hk) (fun e => hn (by simpa using e))
  refine ⟨h.blk.set 1 _, h.foot, h.draws.block (fun k hk _ => hb k (h.apart k hk).1 (h.apart k hk).2.1), h.apart, h.few, hn, h.made, ?_, fun k hk => by simpa using h.room k hk⟩
  rcases h.maps with h0 | ⟨b1, b2, b3, n2, n3, e1, e2, e3, n12, n13, n23, f1, f2, f3, l2, l3, g1, g2, g3⟩
  · exact .inl h0
  · have hne : ∀ {k n f} {c : TypeId}, MapF Try.prog c w k n f → k ≠ b := fun {k n f c} hm e => by
      obtain ⟨m, D, ⟨es, clock, he, _⟩, _⟩ := hm
      have := h.blk
      unfold Blk at this
      rw [← e, he] at this
      cases this
    exact .inr ⟨b1, b2, b3, n2, n3, e1, e2, e3, n12, n13, n23, f1, f2, f3, l2, l3, g1.block (hb _ f1 (hne g1)), g2.block (hb _ f2 (hne g2)), g3.block (hb _ f3 (hne g3))⟩

theorem next_any (w : World) (b : Nat) (ft : List Nat) (T : Tab) (dv m1 m2 m3 : Value) (h : IsO w b ft T dv m1 m2 m3) (hl : T.draws = [] → T.least ≤ T.us.length) :
    Calls Try.prog 56 #[ptr b] w fun e w' => e = .returned (.int .u64 T.next.1) ∧ (∃ dv', IsO w' b ft T.next.2 dv' m1 m2 m3) ∧ Turn [b] w w' := by
  have H : Hid (IsO w b ft T dv m1 m2 m3) := h
  have c0 := h.blk.cell 0 _ rfl
  have c1 := h.blk.cell 1 _ rfl
  have f0 := h.blk.frozen 0
  have f1 := h.blk.frozen 1
  have hle := h.least
  have hfew := h.few
  have hd := h.draws
  clear h
  obtain ⟨draws, least, us, made, hashes, signed⟩ := T
  unfold Tab.next
  dsimp only at *
  cases draws with
  | nil =>
    have hl := hl rfl
    obtain ⟨_, a, cap, rfl, _⟩ := hd
    have hw : IntKind.u64.wrap ((least : Int) + 1) = (least : Int) + 1 := wraps_u64 _ (by omega) (by omega)
    go_enter Try.func56, Try.ntmps56
    go_wp2
    go_ret
    exact ⟨rfl, ⟨_, H.out.setLeast (n := least + 1) (by simp only; omega)⟩, Turn.of_grown (grown_setCell _ _ _ _) (by simp)⟩
  | cons d ds =>
    have HD : Hid (RdU w dv (d :: ds)) := hd
    obtain ⟨_, a, cap, rfl, hc1, hc2, hc3, hc4⟩ := hd
    obtain ⟨bb, off, rfl, hcell⟩ := hc4 (by simp)
    have hcd : w.cell? ⟨bb, off, none⟩ = some (.int .u64 d) := hcell 0 (by simp)
    clear hcell hc3 hc4 hl
    unfold maxLen at hc2
    simp only [List.length_cons] at hc1 c0 H HD
    by_cases hcap : cap = 1
    · subst hcap
      have hds : ds.length = 0 := by omega
      go_enter Try.func56, Try.ntmps56
      go_wp2
      go_ret
      refine ⟨rfl, ⟨_, H.out.setDraws ?_ ?_⟩, Turn.of_grown (grown_setCell _ _ _ _) (by simp)⟩
      · have := rdU_tail0 HD.out
        rwa [hds] at this
      · intro k hk; exact hk
    · go_enter Try.func56, Try.ntmps56
      go_wp2
      go_ret
      refine ⟨rfl, ⟨_, H.out.setDraws ?_ ?_⟩, Turn.of_grown (grown_setCell _ _ _ _) (by simp)⟩
      · have := rdU_tail HD.out hcap
        rwa [Option.map_some, Addr.add_lit] at this
      · intro k hk; exact hk

theorem law37 : Keyed Try.prog 37 := int_keyed (q := .u64) (by kernel_rfl)
theorem law9 : Keyed Try.prog 9 := string_keyed (by kernel_rfl)
theorem zero72 (w : World) : (zeroValue 72).run Try.prog w = .ok (thingVal noThing) w := by kernel_rfl
theorem zero83 (w : World) : (zeroValue 83).run Try.prog w = .ok (markVal 0) w := by kernel_rfl
theorem wfU {h : Int} (hh : U64 h) : (Lit.int .u64 h).wf = true := WalkArith.wf_u64 (by unfold U64 at hh; omega)
theorem key37 {h : Int} (hh : U64 h) : keyOf Try.prog 37 (.int .u64 h) = some (.int .u64 h) := keyOf_int_mk (by kernel_rfl) (wfU hh)

theorem getD_thing (o : Option Thing) : (o.map thingVal).getD (thingVal noThing) = thingVal (o.getD noThing) := by cases o <;> rfl
theorem getD_mark (o : Option Int) : (o.map markVal).getD (markVal 0) = markVal (o.getD 0) := by cases o <;> rfl
theorem key9 {l : List Int} (ho : Oct l) (hl : l.length ≤ maxLen) : keyOf Try.prog 9 (.string (strOfNums l)) = some (.string (strOfNums l).data.toList) := WideMaps.keyOf_string_mk (by kernel_rfl) (by rw [← sb_length, sb_strOfNums l ho]; exact hl)

/-- What stands behind g. -/
def Tab.at (T : Tab) (g : Int) : Thing := (T.made g).getD noThing

theorem IsO.look {w : World} {b : Nat} {ft : List Nat} {T : Tab} {dv m1 m2 m3 : Value} (h : IsO w b ft T dv m1 m2 m3) {g : Int} (hg : U64 g) : (Instr.lookup 61 m1 (.int .u64 g) false).run Try.prog w = .ok (thingVal (T.at g)) w := by
  have hm := h.made g
  unfold Tab.at
  rcases h.maps with ⟨rfl, _, _, hus, _⟩ | ⟨b1, b2, b3, n2, n3, rfl, e2, e3, n12, n13, n23, f1, f2, f3, l2, l3, g1, g2, g3⟩
  · have hl := Go.Maps.look_nil (w := w) (t := 61) (e := 72) false law37 (by kernel_rfl) (zero72 w) (key37 hg)
    have hn : T.made g = none := by
      rw [hus] at hm
      simpa using hm
    rw [hl, hn]
    rfl
  · rw [g1.look (t := 61) (e := 72) law37 (by kernel_rfl) (zero72 w) (key37 hg), litI_at, getD_thing]
theorem IsO.look_ok {w : World} {b : Nat} {ft : List Nat} {T : Tab} {dv m1 m2 m3 : Value} (h : IsO w b ft T dv m1 m2 m3) {g : Int} (hg : U64 g) : (Instr.lookup 61 m1 (.int .u64 g) true).run Try.prog w = .ok (.tuple #[thingVal (T.at g), .bool (decide (g ∈ T.us))]) w := by
  have hm := h.made g
  unfold Tab.at
  rcases h.maps with ⟨rfl, _, _, hus, _⟩ | ⟨b1, b2, b3, n2, n3, rfl, e2, e3, n12, n13, n23, f1, f2, f3, l2, l3, g1, g2, g3⟩
  · have hl := Go.Maps.look_nil (w := w) (t := 61) (e := 72) true law37 (by kernel_rfl) (zero72 w) (key37 hg)
    have hn : T.made g = none := by
      rw [hus] at hm
      simpa using hm
    rw [hl, hn, hus]
    rfl
  · rw [g1.look_ok (t := 61) (e := 72) law37 (by kernel_rfl) (zero72 w) (key37 hg), litI_at, getD_thing, Option.isSome_map, hm]
theorem IsO.look_signed {w : World} {b : Nat} {ft : List Nat} {T : Tab} {dv m1 m2 m3 : Value} (h : IsO w b ft T dv m1 m2 m3) {l : List Int} (ho : Oct l) (hl : l.length ≤ maxLen) :
    (Instr.lookup 62 m3 (.string (strOfNums l)) true).run Try.prog w = .ok (.tuple #[markVal ((T.signed l).getD 0), .bool (T.signed l).isSome]) w := by
  rcases h.maps with ⟨_, _, rfl, hus, _, hs⟩ | ⟨b1, b2, b3, n2, n3, rfl, e2, rfl, n12, n13, n23, f1, f2, f3, l2, l3, g1, g2, g3⟩
  · have hl := Go.Maps.look_nil (w := w) (t := 62) (e := 83) true law9 (by kernel_rfl) (zero83 w) (key9 ho hl)
    rw [hl, hs]
    rfl
  · rw [g3.look_ok (t := 62) (e := 83) law9 (by kernel_rfl) (zero83 w) (key9 ho hl), litS_at _ _ ho, getD_mark, Option.isSome_map]

set_option maxRecDepth 20000 in
theorem out_any (w : World) (b : Nat) (ft : List Nat) (T : Tab) (dv m1 m2 m3 : Value) (h : IsO w b ft T dv m1 m2 m3) (g : Int) (hg : U64 g) :
    Calls Try.prog 57 #[ptr b, .int .u64 g] w fun e w' => e = .returned (.bool (decide (g ∈ T.us))) ∧ Below w.heap.size w w' := by
  have c2 := h.blk.cell 2 _ rfl
  have hl := h.look_ok hg
  generalize decide (g ∈ T.us) = q at hl ⊢
  unfold thingVal at hl
  generalize T.at g = t at hl
  clear h
  go_enter Try.func57, Try.ntmps57
  go_wp2
  go_ret
  exact ⟨rfl, ((Below.refl _ _).alloc (Nat.le_refl _) _)⟩

theorem eql_map (w : World) (m : Option Nat) : (binOp .eql 61 (.map m) (.map none)).run Try.prog w = .ok (.bool m.isNone) w := by
  have hu : Try.prog.underlying 61 = some (.map 37 72) := by kernel_rfl
  have key : ∀ d, (Op.equalIn (d + 1) 61 (.map m) (.map none)).run Try.prog w = .ok m.isNone w := fun d => by
    cases m <;> simp [Op.equalIn, run_underlying hu, Result.andThen]
  have e1 : (binOp .eql 61 (.map m) (.map none)).run Try.prog w = ((Op.equalIn (9999 + 1) 61 (.map m) (.map none)).run Try.prog w).andThen fun b w' => .ok (.bool b) w' := by
    simp only [binOp]
    simp [Op.equal, Op.maxDepth]
  rw [e1, key]
  rfl

/-- 'make(map[K]V)', the world behind it under a name. -/
theorem wpList_makeMap {P : Program} {w : World} {ops : Array Oper} {rest : List Oper} {o : Oper} {a : Act} {Q : Exit → Act → World → Prop} (hg : o.guard = none) (t k : TypeId) (hop : o.op = Op.makeMap t none)
    (hK : ∀ w', MapF P k w' w.heap.size 0 (fun _ => none) → Below w.heap.size w w' → w'.heap.size = w.heap.size + 1 → wpList P ops Q rest (a.put o.dst (.map (some w.heap.size))) w') : wpList P ops Q (o :: rest) a w := by
  refine wpList_plain hg fun K' hK' => ?_
  have hrun := run_makeMap (P := P) t w
  unfold Oper.wp
  simp [execOp, hop, hrun, Result.andThen]
  exact hK' _ _ (hK _ (mapF_made w P k) ((Below.refl _ _).alloc (Nat.le_refl _) _) (by simp))


theorem isO_made {w w' : World} {b k1 k2 k3 : Nat} {ft : List Nat} {T : Tab} {dv : Value} (h : IsO w b ft T dv (.map none) (.map none) (.map none)) (hus : T.us = []) (hh : ∀ t, T.hashes t = none) (hs : ∀ t, T.signed t = none)
    (ht : Turn [b] w w') (hb : Blk w' b 64 [dv, .int .u64 T.least, .map (some k1), .map (some k2), .map (some k3)]) (h1 : w.heap.size ≤ k1) (h2 : k1 < k2) (h3 : k2 < k3)
    (g1 : MapF Try.prog 37 w' k1 0 (fun _ => none)) (g2 : MapF Try.prog 9 w' k2 0 (fun _ => none)) (g3 : MapF Try.prog 9 w' k3 0 (fun _ => none)) :
    IsO w' b (k1 :: k2 :: k3 :: ft) T dv (.map (some k1)) (.map (some k2)) (.map (some k3)) ∧ Of ft w (k1 :: k2 :: k3 :: ft) ∧ ∀ k ∈ ft, k ∈ (k1 :: k2 :: k3 :: ft) := by
  have e1 : litI T.made = fun _ => none := by
    funext l
    unfold litI
    split
    · rename_i g
      have := h.made g
      rw [hus] at this
      simp at this
      simp [this]
    · rfl
  have e2 : litS T.hashes = fun _ => none := by
    funext l
    unfold litS
    split
    · rw [hh]; rfl
    · rfl
  have e3 : litS T.signed = fun _ => none := by
    funext l
    unfold litS
    split
    · rw [hs]; rfl
    · rfl
  refine ⟨⟨hb, by simp [h.foot], h.draws.block (fun k hk hlt => ht.block k hlt (by simpa using (h.apart k hk).2.1)), fun k hk => ?_, h.few, h.least, h.made, ?_, fun k hk => ?_⟩, fun k hk => ?_, fun k hk => by simp [hk]⟩
  · have := h.room k (h.apart k hk).1
    refine ⟨by simp [(h.apart k hk).1], (h.apart k hk).2.1, ?_, ?_, ?_⟩ <;> (intro e; cases e; omega)
  · refine .inr ⟨k1, k2, k3, 0, 0, rfl, rfl, rfl, by omega, by omega, by omega, by simp, by simp, by simp, by simp, by simp, ?_, ?_, ?_⟩
    · rw [e1, hus]; exact g1
    · rw [e2]; exact g2
    · rw [e3]; exact g3
  · simp only [List.mem_cons] at hk
    rcases hk with rfl | rfl | rfl | hk
    · exact g1.lt
    · exact g2.lt
    · exact g3.lt
    · exact Nat.lt_of_lt_of_le (h.room k hk) ht.size
  · simp only [List.mem_cons] at hk
    rcases hk with rfl | rfl | rfl | hk
    · right; omega
    · right; omega
    · right; omega
    · exact .inl hk

set_option maxHeartbeats 1000000 in
set_option maxRecDepth 20000 in
theorem ready_any (w : World) (b : Nat) (ft : List Nat) (T : Tab) (dv m1 m2 m3 : Value) (h : IsO w b ft T dv m1 m2 m3) :
    Calls Try.prog 39 #[ptr b] w fun e w' => e = .returned (.tuple #[]) ∧ (∃ ft' b1 b2 b3, IsO w' b ft' T dv (.map (some b1)) (.map (some b2)) (.map (some b3)) ∧ Of ft w ft' ∧ ∀ k ∈ ft, k ∈ ft') ∧ Turn [b] w w' := by
  have c2 := h.blk.cell 2 _ rfl
  have H : Hid (IsO w b ft T dv m1 m2 m3) := h
  rcases h.maps with ⟨rfl, rfl, rfl, hus, hh, hs⟩ | ⟨b1, b2, b3, n2, n3, rfl, rfl, rfl, n12, n13, n23, f1, f2, f3, l2, l3, g1, g2, g3⟩
  · have hlt := h.blk.lt
    have hq := eql_map w none
    have X0 : Hid (Blk w b 64 [dv, .int .u64 T.least, .map none, .map none, .map none]) := h.blk
    have HU : Hid (T.us = [] ∧ (∀ t, T.hashes t = none) ∧ (∀ t, T.signed t = none)) := ⟨hus, hh, hs⟩
    clear h hus hh hs
    go_enter Try.func39, Try.ntmps39
    go_wp2_with (first
      | (refine wpList_makeMap rfl 61 37 rfl ?_; intro w1 hm1 hb1 hs1; have X1 : Hid (Blk w1 b 64 _) := X0.out.block (hb1.block b hlt); clear X0; have d2 := X1.out.cell 2 _ rfl; have q2 := X1.out.frozen 2; have HM1 : Hid (MapF Try.prog 37 w1 w.heap.size 0 fun _ => none) := hm1; clear hm1; have HB1 : Hid (Below w.heap.size w w1) := hb1; clear hb1)
      | (refine wpList_makeMap rfl 62 9 rfl ?_; intro w2 hm2 hb2 hs2; have hs2' : w2.heap.size = w.heap.size + 2 := (by rw [hs2]; simp; omega); have X2 : Hid (Blk w2 b 64 _) := (X1.out.set 2 (.map (some w.heap.size))).block (hb2.block b (by simp; omega)); clear X1; have d3 := X2.out.cell 3 _ rfl; have q3 := X2.out.frozen 3; have HM2 : Hid (MapF Try.prog 9 w2 _ 0 fun _ => none) := hm2; clear hm2; have HB2 : Hid (Below _ _ w2) := hb2; clear hb2)
      | (refine wpList_makeMap rfl 62 9 rfl ?_; intro w3 hm3 hb3 hs3; have X3 : Hid (Blk w3 b 64 _) := (X2.out.set 3 (.map (some (w.heap.size + 1)))).block (hb3.block b (by simp; omega)); clear X2; have d4 := X3.out.cell 4 _ rfl; have q4 := X3.out.frozen 4; have HM3 : Hid (MapF Try.prog 9 w3 _ 0 fun _ => none) := hm3; clear hm3; have HB3 : Hid (Below _ _ w3) := hb3; clear hb3))
    go_end0
    have hs3' : w3.heap.size = w.heap.size + 3 := by rw [hs3]; simp; omega
    have m1 : MapF Try.prog 37 w2 w.heap.size 0 (fun _ => none) := (HM1.out.block (Below.heap_setCell w1 ⟨b, 2, none⟩ (.map (some w.heap.size)) _ (by simp; omega))).block (HB2.out.block _ (by simp; omega))
    have m1' : MapF Try.prog 37 w3 w.heap.size 0 (fun _ => none) := (m1.block (Below.heap_setCell w2 ⟨b, 3, none⟩ (.map (some (w.heap.size + 1))) _ (by simp; omega))).block (HB3.out.block _ (by simp; omega))
    have m2 : MapF Try.prog 9 w2 (w.heap.size + 1) 0 (fun _ => none) := by have := HM2.out; simpa [hs1] using this
    have m2' : MapF Try.prog 9 w3 (w.heap.size + 1) 0 (fun _ => none) := (m2.block (Below.heap_setCell w2 ⟨b, 3, none⟩ (.map (some (w.heap.size + 1))) _ (by simp; omega))).block (HB3.out.block _ (by simp; omega))
    have m3' : MapF Try.prog 9 w3 (w.heap.size + 2) 0 (fun _ => none) := by have := HM3.out; simpa [hs2'] using this
    have hT : Turn [b] w (w3.setCell ⟨b, 4, none⟩ (.map (some (w.heap.size + 1 + 1)))) :=
      (((((Turn.of_below HB1.out).same (Turn.of_grown (grown_setCell w1 b 2 _) (by simp))).same (Turn.of_below HB2.out)).same (Turn.of_grown (grown_setCell w2 b 3 _) (by simp))).same (Turn.of_below HB3.out)).same (Turn.of_grown (grown_setCell w3 b 4 _) (by simp))
    obtain ⟨r1, r2, r3⟩ := isO_made H.out HU.out.1 HU.out.2.1 HU.out.2.2 hT (X3.out.set 4 (.map (some (w.heap.size + 1 + 1)))) (Nat.le_refl _) (by omega) (by omega)
      (m1'.block (Below.heap_setCell w3 ⟨b, 4, none⟩ _ _ (by simp; omega))) (m2'.block (Below.heap_setCell w3 ⟨b, 4, none⟩ _ _ (by simp; omega))) (m3'.block (Below.heap_setCell w3 ⟨b, 4, none⟩ _ _ (by simp; omega)))
    exact ⟨rfl, ⟨_, _, _, _, r1, r2, r3⟩, hT⟩
  · have hq := eql_map w (some b1)
    clear h g1 g2 g3
    go_enter Try.func39, Try.ntmps39
    go_wp2
    go_end0
    refine ⟨rfl, ⟨ft, b1, b2, b3, H.out, Of.refl _ _, fun k h => h⟩, Turn.refl _ _⟩
end Go.Proofs.Ytcacioogklgahaa
