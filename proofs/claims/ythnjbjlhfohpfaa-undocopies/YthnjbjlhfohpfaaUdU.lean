/-
  A step taken away from a row: slices.Delete.
  A step undone, and done.
-/
import Derived.Test.YthnjbjlhfohpfaaUdI
import Derived.Test.YthnjbjlhfohpfaaUdI0
namespace Go.Proofs.Ythnjbjlhfohpfaa
section
set_option linter.unusedVariables false
set_option linter.unusedSimpArgs false
set_option synthInstance.maxSize 20000
set_option maxHeartbeats 2000000
set_option maxRecDepth 20000
open Go.RowKit Go.Maps

theorem run_clear66 {w : World} (g off c : Nat) (vs : List Value) (hb : Blk w g 76 vs) (hl : off + 21 ≤ vs.length) :
    (∀ ty, (Builtin.clear_ #[66] ty #[.slice (some ⟨g, off, none⟩) 1 c]).run Try.prog w = .ok (.tuple #[]) (w.setCells g off (Builtin.zeroCells (tv tz).cells 1).toList)) ∧ Blk (w.setCells g off (Builtin.zeroCells (tv tz).cells 1).toList) g 76 (spl vs off (Builtin.zeroCells (tv tz).cells 1).toList) ∧ w.grownBy (w.setCells g off (Builtin.zeroCells (tv tz).cells 1).toList) (some g) := by
  have hz : (Builtin.zeroCells (tv tz).cells 1).toList.length = 21 := zero_len 1
  have h1 : ∀ v ∈ (Builtin.zeroCells (tv tz).cells 1).toList, v.oneCell' = true := fun v hv => by
    simp [Builtin.zeroCells, Value.cells, tv, tc_len] at hv
    obtain ⟨i, hi, rfl⟩ := hv
    have hm : i % 21 < (tc tz).length := by rw [tc_len]; exact Nat.mod_lt _ (by omega)
    rw [List.getElem?_eq_getElem hm]
    exact tc_one tz _ (List.getElem_mem hm)
  have hcell : ∀ j, j < 21 → (w.cell? ⟨g, off + j, none⟩).isSome = true := fun j hj => hb.isIn _ (by omega)
  have hst := run_storeCells_cells (P := Try.prog) g off _ 0 w (fun j hj => by rw [hz] at hj; simpa using hcell j hj) (fun j hj => by simpa using hb.frozen (off + j)) h1
  simp only [Nat.add_zero] at hst
  obtain ⟨q1, q2⟩ := Blk.setsX (Builtin.zeroCells (tv tz).cells 1).toList off w vs hb (by rw [hz]; exact hl)
  refine ⟨fun ty => ?_, q1, q2⟩
  obtain ⟨i, hi, hz0, hs1, hs2⟩ := infoT
  simp [Builtin.clear_, run_underlying Try.underlying66, hst, zeroValue, typeInfo, hi, hz0]
theorem exec_clear66 {o : Oper} {r : Operand → Value} {w w' : World} {v : Value} (x : Operand) (ho : o.op = .call { callee := .builtin .clear, args := #[x], argTypes := #[66] }) (hx : r x = v) (hrun : (Builtin.clear_ #[66] o.type #[v]).run Try.prog w = .ok (.tuple #[]) w') : (execOp r o).run Try.prog w = .ok (.value (.tuple #[])) w' := by
  unfold execOp
  simp [ho, resolve, invoke, builtin, hx, hrun, Result.andThen]
theorem spl_mid (A X Z t : List Value) (h : X.length = Z.length) : spl (A ++ (X ++ t)) A.length Z = A ++ (Z ++ t) := by
  unfold spl
  rw [List.take_append_of_le_length (Nat.le_refl _), List.take_of_length_le (Nat.le_refl _), ← List.drop_drop, List.drop_append_of_le_length (Nat.le_refl _), List.drop_of_length_le (Nat.le_refl _), List.nil_append, ← h, List.drop_append_of_le_length (Nat.le_refl _), List.drop_of_length_le (Nat.le_refl _)]
  simp
theorem delete36 {w : World} {v : Value} {l : List ST} {i : Nat} (hown : SRow w v l) (hi : i < l.length) (hl : l.length ≤ 1000) :
    Calls Try.prog 36 #[v, .int .i64 i, .int .i64 ((i : Int) + 1)] w fun e w' => ∃ v', e = .returned v' ∧ SRow w' v' (l.take i ++ l.drop (i + 1)) ∧ w.grownBy w' v.ownBlock ∧ v'.ownBlock = v.ownBlock := by
  rcases hown with ⟨rfl, rfl⟩ | ⟨g, cap, t, rfl, hY, h3, h2, h4⟩
  · simp at hi
  obtain ⟨n, hn⟩ : ∃ n, l.length = n := ⟨_, rfl⟩
  obtain ⟨i0, hi0, hz0, hs1, hs2⟩ := infoT
  have hcl : l.length * 21 + t.length = cap * 21 := by rw [List.length_append, ftc_len] at h3; exact h3
  have hlen2 : (l.take i ++ l.drop (i + 1)).length = n - 1 := by simp; omega
  obtain ⟨x, hx⟩ : ∃ x, l.drop (n - 1) = [x] := List.length_eq_one_iff.1 (by simp; omega)
  have hD : (flat tc (l.drop (i + 1))).length = (n - (i + 1)) * 21 := by rw [ftc_len, List.length_drop, hn]
  obtain ⟨R1, hR1⟩ : ∃ R1, R1 = flat tc (l.take i ++ l.drop (i + 1)) ++ (tc x ++ t) := ⟨_, rfl⟩
  obtain ⟨W1, hW1⟩ : ∃ W1, W1 = w.drew.setRow g R1.toArray := ⟨_, rfl⟩
  have hrow : (flat tc l ++ t).toArray.toList.take (i * 21) ++ flat tc (l.drop (i + 1)) ++ (flat tc l ++ t).toArray.toList.drop (i * 21 + (flat tc (l.drop (i + 1))).length) = R1 := by
    show (flat tc l ++ t).take (i * 21) ++ flat tc (l.drop (i + 1)) ++ (flat tc l ++ t).drop (i * 21 + (flat tc (l.drop (i + 1))).length) = R1
    have e1 : (flat tc l ++ t).take (i * 21) = flat tc (l.take i) := by rw [List.take_append_of_le_length (by rw [ftc_len]; omega), ftc_take]
    have e2 : (flat tc l ++ t).drop (i * 21 + (flat tc (l.drop (i + 1))).length) = tc x ++ t := by
      rw [hD, show i * 21 + (n - (i + 1)) * 21 = (n - 1) * 21 by omega, List.drop_append_of_le_length (by rw [ftc_len]; omega), ftc_drop, hx]
      simp [flat]
    rw [e1, e2, hR1, flat_append]
  have hap : ∀ (A : Addr) (c' : Nat), (0 < n - (i + 1) → A = ⟨g, (i + 1) * 21, none⟩) → ∀ ty, (Builtin.append_ #[66, 66] ty #[.slice (some ⟨g, 0, none⟩) i cap, .slice (some A) (n - (i + 1)) c']).run Try.prog w.drew = .ok (.slice (some ⟨g, 0, none⟩) (n - 1) cap) W1 := fun A c' hA ty => by
    have hr := run_append_room (P := Try.prog) (w := w.drew) 66 ty 76 i0 Try.underlying66 hi0 g i cap (flat tc l ++ t).toArray hY A (n - (i + 1)) c' (flat tc (l.drop (i + 1))) (by rw [hD, hs1]) (fun j u hu => by
      have hj : j < (n - (i + 1)) * 21 := by have := (List.getElem?_eq_some_iff.1 hu).1; omega
      rw [hA (by omega), Addr.add_lit]
      refine Blk.cell (show Blk w.drew g 76 (flat tc l ++ t) from hY) _ u ?_
      rw [← ftc_drop, List.getElem?_drop] at hu
      rw [List.getElem?_append_left (by rw [ftc_len]; omega)]
      exact hu) (flat_tc_one _) (by omega) (by rw [hs1, hD, List.size_toArray, h3]; omega)
    rw [hs1, hrow, show i + (n - (i + 1)) = n - 1 by omega, ← hW1] at hr
    exact hr
  have hB1 : Blk W1 g 76 R1 := by
    rw [hW1]
    exact setRow_heap w.drew g _ R1.toArray 76 (0, 0) hY
  have hG1 : w.grownBy W1 (some g) := by rw [hW1]; exact ⟨rfl, rfl, rfl, by simp, fun k _ hk => setRow_other w.drew g k _ (fun e => hk (by rw [e]))⟩
  have hRl : R1.length = cap * 21 := by rw [hR1, List.length_append, ftc_len, hlen2, List.length_append, tc_len]; omega
  obtain ⟨q1, q2, q3⟩ := run_clear66 (w := W1) g ((n - 1) * 21) (cap - (n - 1)) R1 hB1 (by rw [hRl]; omega)
  obtain ⟨W2, hW2⟩ : ∃ W2, W2 = W1.setCells g ((n - 1) * 21) (Builtin.zeroCells (tv tz).cells 1).toList := ⟨_, rfl⟩
  rw [← hW2] at q1 q2 q3
  have HF : Hid (SRow W2 (.slice (some ⟨g, 0, none⟩) (n - 1) cap) (l.take i ++ l.drop (i + 1))) := by
    have hsp : spl R1 ((n - 1) * 21) (Builtin.zeroCells (tv tz).cells 1).toList = flat tc (l.take i ++ l.drop (i + 1)) ++ ((Builtin.zeroCells (tv tz).cells 1).toList ++ t) := by
      have e0 : (flat tc (l.take i ++ l.drop (i + 1))).length = (n - 1) * 21 := by rw [ftc_len, hlen2]
      rw [hR1, ← e0]
      exact spl_mid _ _ _ _ (by rw [tc_len, zero_len])
    rw [hsp] at q2
    refine .inr ⟨g, cap, _, by rw [hlen2], q2, ?_, h2, (zero_noB 1).append h4⟩
    rw [List.length_append, ftc_len, hlen2, List.length_append, zero_len]
    omega
  have HG : Hid (w.grownBy W2 (some g)) := grown_trans hG1 q3 (fun k hk => .inl hk)
  have hc63 : cap ≤ 9223372036854775807 := by unfold maxLen at h2; omega
  have hncap : n ≤ cap := by omega
  have hin : (i : Int) < (n : Int) := by omega
  have hi1 : ((i : Int) + 1).toNat = i + 1 := by omega
  have hne : ((i : Int) == (i : Int) + 1) = false := by rw [beq_eq_false_iff_ne]; omega
  have hlI : (i : Int) + 1 ≤ (n : Int) := by omega
  rw [hn] at hi
  rw [hn]
  clear hcl hlen2 hx hD hrow hY h3 hi0 hz0 hs1 hs2 hB1 hG1 hRl q2 q3 h2
  have hcn : ¬ cap = n - 1 := by omega
  by_cases hcap : cap = i + 1
  · subst hcap
    obtain rfl : n = i + 1 := by omega
    have hci : ¬ i + 1 = i := by omega
    have hA := hap ⟨g, 0, none⟩ 0 (fun h => by omega)
    rw [Nat.sub_self, Nat.add_sub_cancel] at hA
    rw [Nat.add_sub_cancel, Nat.add_sub_cancel_left] at q1
    rw [Nat.add_sub_cancel] at HF
    have hn1 : (i : Int) < ((i + 1 : Nat) : Int) := by omega
    clear hap hW2 hW1 hR1
    go_enter Try.func36, Try.ntmps36
    go_upto_region 5 with fail
    have ne : Nonempty (WIn (fun _ => True)) := ⟨⟨w.drew, trivial⟩⟩
    refine wp_region_ord (C := fun w' => ∃ z : WIn (fun _ => True), w' = z.w) [(false, 0), (false, 1), (false, 2), (false, 3), (false, 4), (false, 5), (true, 6), (false, 7)] (by kernel_rfl) (by kernel_rfl) ⟨⟨w.drew, trivial⟩, rfl⟩ ?_
    iterate 6 (refine ord_still rfl rfl ?_; go_big_quiet_step (fail); refine wpQuiet_nil ?_)
    refine ord_mem rfl rfl ?_
    refine wp_of_list rfl ?_
    refine wpList_append_at rfl (.tmp 22) (.tmp 25) 66 66 rfl (.slice (some ⟨g, 0, none⟩) i (i + 1)) (.slice (some ⟨g, 0, none⟩) 0 0) rfl rfl hA ?_
    refine ⟨rfl, ⟨⟨W1, trivial⟩, rfl⟩, ?_⟩
    go_simp
    iterate 1 (refine ord_still rfl rfl ?_; go_big_quiet_step (fail); refine wpQuiet_nil ?_)
    refine ord_end ?_
    clear ne
    go_wp2_with (refine wpList_ok rfl (exec_clear66 (.tmp 31) rfl rfl (q1 _)) ?_)
    go_ret
    exact ⟨_, rfl, HF.out, HG.out, rfl⟩
  · have hci : ¬ cap = i := by omega
    have hA := hap ⟨g, (i + 1) * 21, none⟩ (cap - (i + 1)) (fun _ => rfl)
    have hn1 : ((n - 1 : Nat) : Int) < (n : Int) := by omega
    have hn2 : n - 1 ≤ n := by omega
    have hn3 : n - (n - 1) = 1 := by omega
    have hcap' : ¬ cap = i + 1 := hcap
    clear hap hW2 hcap hW1 hR1
    go_enter Try.func36, Try.ntmps36
    go_upto_region 5 with fail
    have ne : Nonempty (WIn (fun _ => True)) := ⟨⟨w.drew, trivial⟩⟩
    refine wp_region_ord (C := fun w' => ∃ z : WIn (fun _ => True), w' = z.w) [(false, 0), (false, 1), (false, 2), (false, 3), (false, 4), (false, 5), (true, 6), (false, 7)] (by kernel_rfl) (by kernel_rfl) ⟨⟨w.drew, trivial⟩, rfl⟩ ?_
    iterate 6 (refine ord_still rfl rfl ?_; go_big_quiet_step (fail); refine wpQuiet_nil ?_)
    refine ord_mem rfl rfl ?_
    refine wp_of_list rfl ?_
    refine wpList_append_at rfl (.tmp 22) (.tmp 25) 66 66 rfl (.slice (some ⟨g, 0, none⟩) i cap) (.slice (some ⟨g, (i + 1) * 21, none⟩) (n - (i + 1)) (cap - (i + 1))) rfl rfl hA ?_
    refine ⟨rfl, ⟨⟨W1, trivial⟩, rfl⟩, ?_⟩
    go_simp
    iterate 1 (refine ord_still rfl rfl ?_; go_big_quiet_step (fail); refine wpQuiet_nil ?_)
    refine ord_end ?_
    clear ne
    go_wp2_with (refine wpList_ok rfl (exec_clear66 (.tmp 31) rfl rfl (q1 _)) ?_)
    go_ret
    exact ⟨_, rfl, HF.out, HG.out, rfl⟩
end

section
set_option linter.unusedVariables false
set_option linter.unusedSimpArgs false
set_option synthInstance.maxSize 20000
set_option maxHeartbeats 2000000
set_option maxRecDepth 20000
open Go.RowKit Go.Maps

theorem splice_mid (A X B ys : List Value) (off : Nat) (h : off + ys.length ≤ X.length) : splice (A ++ (X ++ B)) (A.length + off) ys = A ++ (splice X off ys ++ B) := by
  unfold splice
  have e1 : (A ++ (X ++ B)).take (A.length + off) = A ++ X.take off := by
    rw [List.take_length_add_append, List.take_append_of_le_length (by omega)]
  have e2 : (A ++ (X ++ B)).drop (A.length + off + ys.length) = X.drop (off + ys.length) ++ B := by
    rw [Nat.add_assoc, List.drop_length_add_append, List.drop_append_of_le_length h]
  rw [e1, e2]
  simp
section
variable {w w' : World} {v : Value} {U : List ST} {g cap i tb : Nat} {s s' : ST} {mo mo' : Option Nat} {L : List IT}
theorem SRow.splice (h : SRow w (.slice (some ⟨g, 0, none⟩) U.length cap) U) (hi : U[i]? = some s) (off : Nat) (ys : List Value) (hl : off + ys.length ≤ 21) (hsp : Go.splice (tc s) off ys = tc s') : SRow (w.setCells g (i * 21 + off) ys) (.slice (some ⟨g, 0, none⟩) U.length cap) (U.set i s') ∧ w.grownBy (w.setCells g (i * 21 + off) ys) (some g) := by
  refine ⟨?_, grown_setCells g _ _ _⟩
  obtain ⟨hil, hie⟩ := List.getElem?_eq_some_iff.1 hi
  rcases h with ⟨h, _⟩ | ⟨g', cap', t, e, h1, h2, h3, h4⟩
  · cases h
  · cases e
    have eU : U = U.take i ++ s :: U.drop (i + 1) := by rw [← hie, ← List.drop_eq_getElem_cons hil, List.take_append_drop]
    have eS : U.set i s' = U.take i ++ s' :: U.drop (i + 1) := List.set_eq_take_append_cons_drop.trans (if_pos hil)
    have lA : (flat tc (U.take i)).length = i * 21 := by rw [ftc_len, List.length_take, Nat.min_eq_left (Nat.le_of_lt hil)]
    have hb := Blk.setCells h1 (i * 21 + off) ys (by rw [List.length_append, ftc_len]; omega)
    have e1 : flat tc U ++ t = flat tc (U.take i) ++ (tc s ++ (flat tc (U.drop (i + 1)) ++ t)) := by
      conv => lhs; rw [eU]
      rw [flat_append, flat_cons]
      simp
    have e2 : flat tc (U.set i s') ++ t = flat tc (U.take i) ++ (tc s' ++ (flat tc (U.drop (i + 1)) ++ t)) := by
      rw [eS, flat_append, flat_cons]
      simp
    rw [e1, ← lA, splice_mid _ _ _ _ _ (by rw [tc_len]; exact hl), hsp, ← e2, lA] at hb
    refine .inr ⟨g, cap, t, by rw [List.length_set], hb, ?_, h3, h4⟩
    rw [← h2, List.length_append, List.length_append, ftc_len, ftc_len, List.length_set]
theorem SRow.apart (h : SRow w v U) (hP : PTr w tb mo L) {k : Nat} (hk : v.ownBlock = some k) : k ≠ tb ∧ mo ≠ some k := by
  obtain ⟨vs, hb, _⟩ := h.cells hk
  have hb : w.heap[k]? = some (.cells _ 76 (0, 0)) := hb
  refine ⟨fun e => ?_, fun e => ?_⟩
  · have hc : w.heap[tb]? = some (.cells _ 84 (0, 0)) := hP.blk
    rw [e, hc] at hb; injection hb with hb; injection hb with _ h4; simp at h4
  · rcases hP.mp with ⟨e1, _⟩ | ⟨mb, e1, hm⟩
    · rw [e1] at e; cases e
    · rw [e1] at e; cases e
      exact hm.nocells hb
theorem SRow.tw (h : SRow w v U) (ht : Tw tb mo w w' mo') (hP : PTr w tb mo L) : SRow w' v U := h.block fun k hk => ht.block k (h.lt hk) (h.apart hP hk).1 (h.apart hP hk).2
theorem PTr.pastRow (hP : PTr w tb mo L) (h : SRow w v U) (hg : w.grownBy w' v.ownBlock) : PTr w' tb mo L := by
  refine ⟨hP.blk.past' hg fun e => (h.apart hP e).1 rfl, hP.mp.imp id (fun ⟨mb, e, hm⟩ => ⟨mb, e, hm.block (hg.block mb hm.lt (fun e2 => (h.apart hP e2.symm).2 e))⟩), hP.ok, fun z hz => h.rdPast (hP.rd z hz) hg, hP.srt, hP.few⟩
theorem undo60 (h : PTr w tb mo L) (s : ST) (hx : Rd w s.x.v s.x.m.b) (hl : s.x.m.b.length ≤ 1000) (hn : rightB s.x.m.n = true) (hp : SOk s.x.m.p) (few : L.length ≤ 500) : Calls Try.prog 60 #[tv s, ptr tb] w fun e w' => e = .returned (.tuple #[]) ∧ ∃ mo' L', PTr w' tb mo' L' ∧ L'.map IT.m = setM (L.map IT.m) s.x.m s.b ∧ Tw tb mo w w' mo' ∧ StaysM s.b mo mo' := by
  obtain ⟨w1, hw1⟩ : ∃ w1, w1 = w.alloc (.cells (tc s).toArray 76) := ⟨_, rfl⟩
  obtain ⟨B0, hB0⟩ : ∃ B0, B0 = w.heap.size := ⟨_, rfl⟩
  have HB1 : Hid (Below w.heap.size w w1) := by show Below _ _ _; rw [hw1]; exact balloc (Below.refl _ _) _
  have HS : Stb w1 B0 s := by rw [hw1, hB0]; exact stb_new w s
  have HX : Hid (w1.rangeAt B0 10 (ic s.x)) := by
    have := range_was HS.load
    rwa [Nat.zero_add] at this
  have hT := range_there HS.load
  rw [Nat.zero_add] at hT
  have HK : Hid (Calls Try.prog 42 #[ptr tb, iv s.x, .bool s.b] w1 fun e w' => e = .returned (.int .i64 0) ∧ ∃ mo' L', PTr w' tb mo' L' ∧ L'.map IT.m = setM (L.map IT.m) s.x.m s.b ∧ Tw tb mo w1 w' mo' ∧ StaysM s.b mo mo') := set30p (h.below HB1.out) s.x (hx.below HB1.out) hl hn hp few s.b
  clear HS hx hl hn hp few h
  go_enter Try.func60, Try.ntmps60
  go_upto_region 1 with (refine wpList_okw rfl (exec_box76 (q := s) (.tmp 0) rfl rfl) ?_)
  rw [← hw1, ← hB0]
  clear hw1 hB0
  go_wp2_with (first
    | (refine wpList_okw rfl (exec_load35 (q := s.x) (.tmp 5) rfl rfl HX.out) ?_)
    | (go_at_call 42; go_must (refine HK.out.mono ?_; rintro e w2 ⟨rfl, mo', L', h1, h2, h3, h4⟩; have H4 : StaysM s.b mo mo' := h4; clear h4; have H1 : Hid (PTr w2 tb mo' L') := h1; have H2 : Hid (L'.map IT.m = setM (L.map IT.m) s.x.m s.b) := h2; have H3 : Hid (Tw tb mo w1 w2 mo') := h3; clear h1 h2 h3)))
  go_end0
  exact ⟨rfl, mo', L', H1.out, H2.out, (Tw.of_below HB1.out).trans H3.out, H4⟩
def itN (x : IT) (n : S) : IT := { x with m := { x.m with n := n } }
/-- What a step that is done leaves. -/
structure DidAns (w : World) (g cap i tb : Nat) (mo : Option Nat) (L : List IT) (U : List ST) (s : ST) (x : IT) (b : Bool) (mo' : Option Nat) (L' : List IT) (w' : World) : Prop where
  row : SRow w' (.slice (some ⟨g, 0, none⟩) U.length cap) (U.set i ⟨s.q, x, b⟩)
  was : WasM (L.map IT.m) s.q x.m b
  rd : Rd w' x.v x.m.b
  len : x.m.b.length ≤ 1000
  par : SOk x.m.p
  tree : PTr w' tb mo' L'
  lst : L'.map IT.m = doM (L.map IT.m) s.q
  fr : ∀ lb, Lw lb tb mo (.slice (some ⟨g, 0, none⟩) U.length cap) w w' mo' (.slice (some ⟨g, 0, none⟩) U.length cap)
def DidAll (w : World) (g cap i tb : Nat) (mo : Option Nat) (L : List IT) (U : List ST) (s : ST) (w' : World) : Prop := ∃ x b mo' L', DidAns w g cap i tb mo L U s x b mo' L' w'
theorem set_load {x : ST} (h : SRow w (.slice (some ⟨g, 0, none⟩) U.length cap) (U.set i x)) (hi : i < U.length) : w.rangeAt g (i * 21) (tc x) := by
  have h' : SRow w (.slice (some ⟨g, 0, none⟩) (U.set i x).length cap) (U.set i x) := by rw [List.length_set]; exact h
  exact h'.load (by rw [List.getElem?_set_self (by simpa using hi)])
theorem set_thereAt {x : ST} (h : SRow w (.slice (some ⟨g, 0, none⟩) U.length cap) (U.set i x)) (hi : i < U.length) (j : Nat) (hj : j < 21) : (w.cell? ⟨g, i * 21 + j, none⟩).isSome = true ∧ w.frozen? ⟨g, i * 21 + j, none⟩ = false := by
  have h' : SRow w (.slice (some ⟨g, 0, none⟩) (U.set i x).length cap) (U.set i x) := by rw [List.length_set]; exact h
  exact h'.there (i := i) (by simpa using hi) j hj
theorem set_cell {x : ST} (h : SRow w (.slice (some ⟨g, 0, none⟩) U.length cap) (U.set i x)) (hi : i < U.length) : w.cell? ⟨g, i * 21 + 20, none⟩ = some (.bool x.b) ∧ w.frozen? ⟨g, i * 21 + 20, none⟩ = false := ⟨range_there (set_load h hi), (set_thereAt h hi 20 (by omega)).2⟩
theorem set_was (h : SRow w (.slice (some ⟨g, 0, none⟩) U.length cap) U) (hi : U[i]? = some s) (x : IT) : SRow (w.setCells g (i * 21 + 10) (ic x)) (.slice (some ⟨g, 0, none⟩) U.length cap) (U.set i ⟨s.q, x, s.b⟩) ∧ w.grownBy (w.setCells g (i * 21 + 10) (ic x)) (some g) := h.splice hi 10 (ic x) (by rw [ic_len]; omega) rfl
theorem set_there {q : OpT} {x : IT} {b0 : Bool} (h : SRow w (.slice (some ⟨g, 0, none⟩) U.length cap) (U.set i ⟨q, x, b0⟩)) (hi : i < U.length) (b : Bool) : SRow (w.setCell ⟨g, i * 21 + 20, none⟩ (.bool b)) (.slice (some ⟨g, 0, none⟩) U.length cap) (U.set i ⟨q, x, b⟩) ∧ w.grownBy (w.setCell ⟨g, i * 21 + 20, none⟩ (.bool b)) (some g) := by
  have h' : SRow w (.slice (some ⟨g, 0, none⟩) (U.set i ⟨q, x, b0⟩).length cap) (U.set i ⟨q, x, b0⟩) := by rw [List.length_set]; exact h
  have := h'.splice (i := i) (s := ⟨q, x, b0⟩) (s' := ⟨q, x, b⟩) (by rw [List.getElem?_set_self (by simpa using hi)]) 20 [.bool b] (by simp) rfl
  rw [List.set_set, List.length_set] at this
  exact this
theorem set_node {q : OpT} {x : IT} {b : Bool} (h : SRow w (.slice (some ⟨g, 0, none⟩) U.length cap) (U.set i ⟨q, x, b⟩)) (hi : i < U.length) (n : S) : SRow (w.setCells g (i * 21 + 10) (sc n)) (.slice (some ⟨g, 0, none⟩) U.length cap) (U.set i ⟨q, itN x n, b⟩) ∧ w.grownBy (w.setCells g (i * 21 + 10) (sc n)) (some g) := by
  have h' : SRow w (.slice (some ⟨g, 0, none⟩) (U.set i ⟨q, x, b⟩).length cap) (U.set i ⟨q, x, b⟩) := by rw [List.length_set]; exact h
  have := h'.splice (i := i) (s := ⟨q, x, b⟩) (s' := ⟨q, itN x n, b⟩) (by rw [List.getElem?_set_self (by simpa using hi)]) 10 (sc n) (by simp [sc]) rfl
  rw [List.set_set, List.length_set] at this
  exact this
theorem got_ok (hP : PTr w tb mo L) (n : S) : SOk ((findM (L.map IT.m) n).getD zM).p ∧ ((findM (L.map IT.m) n).getD zM).b.length ≤ 1000 := by
  cases hf : findM (L.map IT.m) n with
  | none => exact ⟨zero_ok, by show (0 : Nat) ≤ 1000; omega⟩
  | some u =>
    obtain ⟨hm, _⟩ := findM_mem hf
    obtain ⟨y, hy, rfl⟩ := List.mem_map.1 hm
    exact ⟨(hP.ok y hy).2.1, (hP.ok y hy).2.2⟩
theorem do61 (hr : SRow w (.slice (some ⟨g, 0, none⟩) U.length cap) U) (hi : U[i]? = some s) (h : PTr w tb mo L) (few : L.length ≤ 100) (hG : Gd (L.map IT.m)) (hq : Rd w s.q.v s.q.b) (hql : s.q.b.length ≤ 1000) (right : rightO s.q = true) :
    Calls Try.prog 61 #[.pointer (some ⟨g, i * 21, none⟩), ptr tb] w fun e w' => e = .returned (.tuple #[]) ∧ DidAll w g cap i tb mo L U s w' := by
  have hil : i < U.length := (List.getElem?_eq_some_iff.1 hi).1
  have HR : Hid (SRow w (.slice (some ⟨g, 0, none⟩) U.length cap) U) := hr
  have HI : Hid (U[i]? = some s) := hi
  have HIL : Hid (i < U.length) := hil
  have HP : Hid (PTr w tb mo L) := h
  have HL : Hid (w.rangeAt g (i * 21) (oc s.q)) := range_op (hr.load hi)
  have HD : Hid (Calls Try.prog 25 #[ptr tb, ov s.q] w fun e w' => ∃ x b k, e = .returned (.tuple #[iv x, .bool b, .int .i64 k]) ∧ DoAns w tb mo L s.q x b k w') := do11 h few hG s.q hq hql
  have HRT : Hid (rightO s.q = true) := right
  clear hr hi hil h few hG hq hql right
  go_enter Try.func61, Try.ntmps61
  go_upto_region 1 with (first
    | (refine wpList_okw rfl (exec_load40 (q := s.q) (.tmp 10) rfl rfl HL.out) ?_)
    | (go_at_call 25; go_must (refine HD.out.mono ?_; rintro e w1 ⟨x, b, k, rfl, hd⟩; have HDA : Hid (DoAns w tb mo L s.q x b k w1) := hd; obtain ⟨mo', L', h1, h2, h3⟩ := hd.tree; have HP1 : Hid (PTr w1 tb mo' L') := h1; have HM1 : Hid (L'.map IT.m = doM (L.map IT.m) s.q) := h2; have HT1 : Hid (Tw tb mo w w1 mo') := h3; clear h1 h2 h3 hd; have HR1 : Hid (SRow w1 (.slice (some ⟨g, 0, none⟩) U.length cap) U) := HR.out.tw HT1.out HP.out; have HTh : Hid (w1.there g (i * 21 + 10) 10) := (fun j hj => by have := HR1.out.there HIL.out (10 + j) (by omega); rwa [← Nat.add_assoc] at this)))
    | (refine wpList_skipw rfl (exec_store35 (q := x) (.tmp 17) (.tmp 13) rfl rfl rfl HTh.out) ?_; obtain ⟨w2, hw2⟩ : ∃ w2, w2 = w1.setCells g (i * 21 + 10) (ic x) := ⟨_, rfl⟩; rw [← hw2]; have hs2 := set_was HR1.out HI.out x; rw [← hw2] at hs2; have HR2 : Hid (SRow w2 (.slice (some ⟨g, 0, none⟩) U.length cap) (U.set i ⟨s.q, x, s.b⟩)) := hs2.1; have HG2 : Hid (w1.grownBy w2 (some g)) := hs2.2; clear hs2 hw2; have HC2 : Hid (w2.cell? ⟨g, i * 21 + 20, none⟩ = some (.bool s.b) ∧ w2.frozen? ⟨g, i * 21 + 20, none⟩ = false) := set_cell (x := ⟨s.q, x, s.b⟩) HR2.out HIL.out; clear HTh)
    | (refine wpList_skipw rfl (exec_store4 (.tmp 19) (.tmp 14) rfl rfl rfl HC2.out.1 HC2.out.2) ?_; obtain ⟨w3, hw3⟩ : ∃ w3, w3 = w2.setCell ⟨g, i * 21 + 20, none⟩ (.bool b) := ⟨_, rfl⟩; rw [← hw3]; have hs3 := set_there HR2.out HIL.out b; rw [← hw3] at hs3; have HR3 : Hid (SRow w3 (.slice (some ⟨g, 0, none⟩) U.length cap) (U.set i ⟨s.q, x, b⟩)) := hs3.1; have HG3 : Hid (w2.grownBy w3 (some g)) := hs3.2; clear hs3 hw3))
  have HN3 : Hid (w3.rangeAt g (i * 21 + 3) (sc s.q.n)) := (range_node3 (s := ⟨s.q, x, b⟩) (range_op (set_load (x := ⟨s.q, x, b⟩) HR3.out HIL.out)))
  have HT3 : Hid (w3.there g (i * 21 + 10) 2) := fun j hj => by
    have := set_thereAt HR3.out HIL.out (10 + j) (by omega)
    rwa [← Nat.add_assoc] at this
  go_wp2_with (first
    | (refine wpList_okw rfl (exec_load24n (n := s.q.n) (.tmp 24) rfl rfl HN3.out) ?_)
    | (refine wpList_skipw rfl (exec_store24n (n := s.q.n) (.tmp 28) (.tmp 25) rfl rfl rfl HT3.out) ?_; obtain ⟨w4, hw4⟩ : ∃ w4, w4 = w3.setCells g (i * 21 + 10) (sc s.q.n) := ⟨_, rfl⟩; rw [← hw4]; have hs4 := set_node HR3.out HIL.out s.q.n; rw [← hw4] at hs4; have HR4 : Hid (SRow w4 (.slice (some ⟨g, 0, none⟩) U.length cap) (U.set i ⟨s.q, itN x s.q.n, b⟩)) := hs4.1; have HG4 : Hid (w3.grownBy w4 (some g)) := hs4.2; clear hs4 hw4))
  go_end0
  have hG : w1.grownBy w4 (some g) := grown_trans (grown_trans HG2.out HG3.out (fun k hk => .inl hk)) HG4.out (fun k hk => .inl hk)
  have hd := HDA.out
  have hr := HRT.out
  refine ⟨rfl, itN x s.q.n, b, mo', L', HR4.out, ⟨?_, ?_⟩, HR1.out.rdPast hd.rd hG, ?_, ?_, HP1.out.pastRow HR1.out hG, HM1.out, fun lb => ?_⟩
  · rw [hd.b, hr]; rfl
  · have := hd.m
    rw [if_pos hr] at this
    show ({ x.m with n := s.q.n } : IM) = _
    rw [this]
  · show x.m.b.length ≤ 1000
    rw [hd.m, if_pos hr]
    exact (got_ok HP.out s.q.n).2
  · show SOk x.m.p
    rw [hd.m, if_pos hr]
    exact (got_ok HP.out s.q.n).1
  · exact (Lw.of_tw HT1.out).trans (Lw.of_row hG (fun k hk => .inl hk))
end
end
end Go.Proofs.Ythnjbjlhfohpfaa
