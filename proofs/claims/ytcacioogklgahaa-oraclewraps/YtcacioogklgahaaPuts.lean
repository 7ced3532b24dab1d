/-
  A thing put behind a fresh handle, and what stands behind a handle.
-/
import Derived.Test.YtcacioogklgahaaFresh
namespace Go.Proofs.Ytcacioogklgahaa
set_option linter.unusedVariables false
set_option synthInstance.maxSize 20000
open Classical
open Go.RowKit Go.Maps

/-- The state with a new handle, behind which t stands. -/
def Tab.puts (T : Tab) (n : Nat) (t : Thing) : Tab := { T with draws := (freshOf T.us T.draws).2, least := n, us := T.us ++ [(freshOf T.us T.draws).1], made := fun x => if x = (freshOf T.us T.draws).1 then some t else T.made x }

theorem MapF.drew {P : Program} {k : TypeId} {w : World} {b n : Nat} {f : Lit → Option Value} (h : MapF P k w b n f) : MapF P k w.drew b n f := h.block rfl
theorem IsO.drew {w : World} {b : Nat} {ft : List Nat} {T : Tab} {dv m1 m2 m3 : Value} (h : IsO w b ft T dv m1 m2 m3) : IsO w.drew b ft T dv m1 m2 m3 := h.turn (X := []) ((Turn.refl [] w).drew) (fun _ _ h => by cases h)

/-- Behind the second store at the same handle. -/
theorem IsO.puts {w w' : World} {b b1 b2 b3 n : Nat} {ft : List Nat} {T : Tab} {dv : Value} {t : Thing} (h : IsO w b ft (T.named n) dv (.map (some b1)) (.map (some b2)) (.map (some b3))) (hg : w.grownBy w' (some b1))
    (hm : MapF Try.prog 37 w' b1 (if (litI (T.named n).made (.int .u64 (freshOf T.us T.draws).1)).isSome then (T.named n).us.length else (T.named n).us.length + 1) (upd (litI (T.named n).made) (.int .u64 (freshOf T.us T.draws).1) (thingVal t)))
    (hm0 : ∀ h, (T.made h).isSome = decide (h ∈ T.us)) : IsO w' b ft (T.puts n t) dv (.map (some b1)) (.map (some b2)) (.map (some b3)) := by
  have e1 : (litI (T.named n).made (.int .u64 (freshOf T.us T.draws).1)).isSome = true := by
    rw [litI_at]
    simp [Tab.named]
  rw [e1, if_pos rfl, litI_upd] at hm
  have e2 : (fun x => if x = (freshOf T.us T.draws).1 then some t else (T.named n).made x) = fun x => if x = (freshOf T.us T.draws).1 then some t else T.made x := by
    funext x
    by_cases e : x = (freshOf T.us T.draws).1
    · simp [e]
    · simp [Tab.named, e]
  rw [e2] at hm
  exact h.putMade hg hm h.few (Nat.le_refl _) (upd_made t hm0)

set_option maxHeartbeats 1000000 in
set_option maxRecDepth 20000 in
theorem put_any (w : World) (b : Nat) (ft : List Nat) (T : Tab) (dv m1 m2 m3 : Value) (t : Thing) (h : IsO w b ft T dv m1 m2 m3) (hf : T.full) (hN : T.us.length + 1 < 1000000000) (hd : ∀ d ∈ T.draws, U64 d) :
    Calls Try.prog 42 #[ptr b, thingVal t] w fun e w' => e = .returned (.int .u64 (freshOf T.us T.draws).1) ∧
      (∃ ft' dv' n b1 b2 b3, IsO w' b ft' (T.puts n t) dv' (.map (some b1)) (.map (some b2)) (.map (some b3)) ∧ (T.puts n t).full ∧ Of ft w ft' ∧ ∀ k ∈ ft, k ∈ ft') ∧ Turn ft w w' := by
  have H : Hid (IsO w b ft T dv m1 m2 m3) := h
  have hm0 := h.made
  have hfr : Hid (U64 (freshOf T.us T.draws).1) := (freshOf_spec T.us T.draws hd (by omega)).2.2.1
  have ht0 : thingVal t = .agg #[.int .i64 t.use, .int .u64 t.secret, .int .u64 t.key, .int .i64 t.zeros, .string (strOfNums t.bound), .string (strOfNums t.plain)] := rfl
  rw [ht0]
  clear h
  go_enter Try.func42, Try.ntmps42
  go_wp2_with (first
    | (go_at_call 39; go_must (refine (ready_any _ b ft T dv m1 m2 m3 (H.out.below ((Below.refl _ _).alloc (Nat.le_refl _) _))).mono ?_; rintro e w1 ⟨rfl, ⟨ft1, b1, b2, b3, h1, hof1, hsub1⟩, ht1⟩))
    | (go_at_call 41; go_must (refine (fresh_any _ b ft1 T dv b1 b2 b3 h1 hf hN).mono ?_; rintro e w2 ⟨rfl, ⟨dv2, n2, h2, hf2⟩, ht2⟩)))
  have hb1 := h1.m1.1
  have hlt : b < w.heap.size := H.out.room b H.out.foot
  have hn1 : w.heap.size ≠ b1 := fun e => by
    rcases hof1 b1 hb1 with r | r
    · have := H.out.room b1 r; omega
    · simp at r; omega
  have X0 : Blk (w.alloc (.cells #[.int .i64 t.use, .int .u64 t.secret, .int .u64 t.key, .int .i64 t.zeros, .string (strOfNums t.bound), .string (strOfNums t.plain)] 72)) w.heap.size 72 [.int .i64 t.use, .int .u64 t.secret, .int .u64 t.key, .int .i64 t.zeros, .string (strOfNums t.bound), .string (strOfNums t.plain)] := heap_alloc_new w _
  have X1 := X0.block (ht1.block _ (by simp) (by simp; omega))
  have X2 := X1.block (ht2.block _ (X1.lt) (by simp; omega))
  have k0 := X2.cell 0 _ rfl
  have k1 := X2.cell 1 _ rfl
  have k2 := X2.cell 2 _ rfl
  have k3 := X2.cell 3 _ rfl
  have k4 := X2.cell 4 _ rfl
  have k5 := X2.cell 5 _ rfl
  have c2 := h2.blk.cell 2 _ rfl
  obtain ⟨wa, ra, ma, ga⟩ := (h2.m1.2.drew).store (val := thingVal t) law37 (t := 61) (e := 72) (by kernel_rfl) (by have := h2.few; unfold maxLen; omega) (key37 hfr.out)
  obtain ⟨wb, rb, mb, gb⟩ := (h2.m1.2.drew.drew).store (val := thingVal t) law37 (t := 61) (e := 72) (by kernel_rfl) (by have := h2.few; unfold maxLen; omega) (key37 hfr.out)
  obtain ⟨wc, rc, mc, gc⟩ := (h2.m1.2.drew.drew.drew).store (val := thingVal t) law37 (t := 61) (e := 72) (by kernel_rfl) (by have := h2.few; unfold maxLen; omega) (key37 hfr.out)
  rw [ht0] at ra rb rc
  have H2 : Hid (IsO w2 b ft1 (T.named n2) dv2 (.map (some b1)) (.map (some b2)) (.map (some b3))) := h2
  have HT : Hid (Turn ft w w2) := by
    have := (((Turn.refl ft w).alloc (.cells #[.int .i64 t.use, .int .u64 t.secret, .int .u64 t.key, .int .i64 t.zeros, .string (strOfNums t.bound), .string (strOfNums t.plain)] 72)).trans ht1 (fun k hk => .inl (by simp at hk; rw [hk]; exact H.out.foot))).trans ht2 (fun k hk => by
      simp at hk
      rcases hk with rfl | rfl
      · exact .inl H.out.foot
      · rcases hof1 k hb1 with r | r
        · exact .inl r
        · right; simp at r; omega)
    exact this
  have HMA : Hid _ := ma
  have HMB : Hid _ := mb
  have HMC : Hid _ := mc
  have HO : Hid (Of ft w ft1) := fun k hk => by
    rcases hof1 k hk with r | r
    · exact .inl r
    · right; simp at r; omega
  clear ma mb mc h1 h2 X0 X1 X2 ht1 ht2 hof1
  have HB : Hid (Of ft w [b1]) := fun k hk => by simp at hk; rw [hk]; exact HO.out b1 hb1
  go_region
  all_goals go_wp2
  all_goals go_ret
  all_goals
    refine ⟨rfl, ⟨ft1, dv2, n2, b1, b2, b3, ?_, hf2, HO.out, hsub1⟩, ?_⟩
    · first
      | exact H2.out.drew.puts ga HMA.out hm0
      | exact H2.out.drew.drew.puts gb HMB.out hm0
      | exact H2.out.drew.drew.drew.puts gc HMC.out hm0
    · first
      | exact HT.out.drew.trans (Turn.of_grown ga (List.mem_singleton.2 rfl)) HB.out
      | exact HT.out.drew.drew.trans (Turn.of_grown gb (List.mem_singleton.2 rfl)) HB.out
      | exact HT.out.drew.drew.drew.trans (Turn.of_grown gc (List.mem_singleton.2 rfl)) HB.out

theorem strList {a b : List Int} (ha : Oct a) (hb : Oct b) : ((strOfNums a).toList = (strOfNums b).toList) ↔ a = b := by
  have := strEq ha hb
  rw [← beq_iff_eq, this, decide_eq_true_iff]

theorem eq_thing (w : World) (t s : Thing) (ht : Oct t.bound ∧ Oct t.plain) (hs : Oct s.bound ∧ Oct s.plain) : (binOp .eql 72 (thingVal t) (thingVal s)).run Try.prog w = .ok (.bool (decide (t = s))) w := by
  have hS : Try.prog.underlying 72 = some (.struct (Try.prog.fieldsOf 72)) := by kernel_rfl
  have hp : Try.prog.stoodInHeld 72 = false := by kernel_rfl
  unfold thingVal
  rw [run_eql_struct, show (10000 : Nat) = 9999 + 1 from rfl, run_equalIn_agg w 9999 72 _ _ hS hp]
  simp only [Program.fieldsOf, Try.underlying72]
  go_simp
  obtain ⟨a1, a2, a3, a4, a5, a6⟩ := t
  obtain ⟨c1, c2, c3, c4, c5, c6⟩ := s
  simp only [strList ht.1 hs.1, strList ht.2 hs.2, Thing.mk.injEq] at *
  have e4 : ((a4 : Int) = (c4 : Int)) ↔ a4 = c4 := by omega
  simp only [e4]
  by_cases h1 : a1 = c1 <;> by_cases h2 : a2 = c2 <;> by_cases h3 : a3 = c3 <;> by_cases h4 : a4 = c4 <;> by_cases h5 : a5 = c5 <;> by_cases h6 : a6 = c6 <;> simp [h1, h2, h3, h4, h5, h6]

theorem ne_thing (w : World) (t s : Thing) (ht : Oct t.bound ∧ Oct t.plain) (hs : Oct s.bound ∧ Oct s.plain) : (binOp .neq 72 (thingVal t) (thingVal s)).run Try.prog w = .ok (.bool (!decide (t = s))) w := by
  have h := eq_thing w t s ht hs
  unfold thingVal at h ⊢
  rw [run_eql_struct] at h
  rw [run_neq_struct]
  generalize (Op.equalIn 10000 72 _ _).run Try.prog w = r at h ⊢
  cases r with
  | ok x w1 =>
    simp only [Result.andThen_ok, Result.ok.injEq, Value.bool.injEq] at h ⊢
    exact ⟨by rw [h.1], h.2⟩
  | halt x w1 => simp [Result.andThen] at h

section
variable {w : World} {ops : Array Oper} {rest : List Oper} {o : Oper} {a : Act} {Q : Exit → Act → World → Prop}

/-- 'x == y', two things. -/
theorem wpList_eqlT (hg : o.guard = none) (x y : Operand) (r : TypeId) (hop : o.op = Op.binOp .eql 72 x y r) (t s : Thing) (hx : a.eval x = thingVal t) (hy : a.eval y = thingVal s) (ht : Oct t.bound ∧ Oct t.plain) (hs : Oct s.bound ∧ Oct s.plain)
    (hK : wpList Try.prog ops Q rest (a.put o.dst (.bool (decide (t = s)))) w) : wpList Try.prog ops Q (o :: rest) a w := by
  refine wpList_plain hg fun K' hK' => ?_
  have hgd : (eqGuard .eql 72 x y (thingVal t) (thingVal s)).run Try.prog w = .ok () w := run_eqGuard_agg w _ 72 x y _ _ (by kernel_rfl)
  unfold Oper.wp
  simp [execOp, hop, hx, hy, hgd, eq_thing w t s ht hs, Result.andThen]
  exact hK' _ _ hK

/-- 'x != y', two things. -/
theorem wpList_neqT (hg : o.guard = none) (x y : Operand) (r : TypeId) (hop : o.op = Op.binOp .neq 72 x y r) (t s : Thing) (hx : a.eval x = thingVal t) (hy : a.eval y = thingVal s) (ht : Oct t.bound ∧ Oct t.plain) (hs : Oct s.bound ∧ Oct s.plain)
    (hK : wpList Try.prog ops Q rest (a.put o.dst (.bool (!decide (t = s)))) w) : wpList Try.prog ops Q (o :: rest) a w := by
  refine wpList_plain hg fun K' hK' => ?_
  have hgd : (eqGuard .neq 72 x y (thingVal t) (thingVal s)).run Try.prog w = .ok () w := run_eqGuard_agg w _ 72 x y _ _ (by kernel_rfl)
  unfold Oper.wp
  simp [execOp, hop, hx, hy, hgd, ne_thing w t s ht hs, Result.andThen]
  exact hK' _ _ hK
end

set_option maxRecDepth 20000 in
theorem isKey_any (w : World) (b : Nat) (ft : List Nat) (T : Tab) (dv m1 m2 m3 : Value) (h : IsO w b ft T dv m1 m2 m3) (g : Int) (hg : U64 g) (hO : Oct (T.at g).bound ∧ Oct (T.at g).plain) :
    Calls Try.prog 43 #[ptr b, .int .u64 g] w fun e w' => e = .returned (.bool (decide (T.at g = ⟨1, 0, 0, 0, [], []⟩))) ∧ w' = w := by
  have c2 := h.blk.cell 2 _ rfl
  have hl := h.look hg
  have HO : Hid (Oct (T.at g).bound ∧ Oct (T.at g).plain) := hO
  clear h hO
  generalize T.at g = t at hl HO ⊢
  go_enter Try.func43, Try.ntmps43
  go_wp2_with (refine wpList_eqlT rfl _ _ _ rfl t ⟨1, 0, 0, 0, [], []⟩ rfl rfl HO.out ⟨Oct.nil, Oct.nil⟩ ?_)
  go_ret
  exact ⟨rfl, rfl⟩
end Go.Proofs.Ytcacioogklgahaa
