/-
  A vector's bytes, by the reference.
-/
import Derived.Test.YtdjfedlkfekeoaaBytesV
namespace Go.Proofs.Ytdjfedlkfekeoaa
set_option linter.unusedVariables false
set_option linter.unusedSimpArgs false
open Go.RowKit

set_option maxHeartbeats 2000000 in
set_option maxRecDepth 20000 in
theorem refbytes_any (v : Value) (l : List H) (w : World) (hv0 : RdH w v l) :
    Calls Try.prog 27 #[v] w fun e w' => ∃ v', e = .returned (.tuple #[v', .int .i64 (bytesV l).2]) ∧ Rd w' v' (bytesV l).1 ∧ Below w.heap.size w w' := by
  have hA := fun w' q => refrightV_any v l w' q
  have HV : Hid (RdH w v l) := hv0
  obtain ⟨av, cv, rfl⟩ := hv0.len
  have hcap := hv0.cap
  by_cases hr : RightV l
  · have h8 := hr.len8
    have HR : Hid (RightV l) := hr
    rw [bytesV_right hr]
    rw [rightB_true hr] at hA
    have hN := fun w' => refnum l.length w' (by omega)
    have HBL : Hid (∀ j, (bytesTo l j).length ≤ 10 + 30 * l.length) := fun j => bytesTo_len hv0.1 (by omega) j
    clear hv0 hr
    go_enter Try.func27, Try.ntmps27
    go_upto_region 4 with (first
      | (go_at_call 14; refine (hA _ HV.out).mono ?_; rintro e w1 ⟨rfl, hb1⟩)
      | (go_at_call 44; refine (hN _).mono ?_; rintro e w2 ⟨v2, rfl, ho2, hb2⟩))
    have HB2 : Hid (Below w.heap.size w w2) := bnext hb1 hb2
    have HO2 : Hid (Own w.heap.size 5 w2 v2 (bytesTo l 0)) := by
      show Own _ _ _ _ _
      have := ho2.lower hb1.size
      rwa [show form l.length = bytesTo l 0 by simp [bytesTo]] at this
    clear hb1 hb2 ho2 hA hN
    go_wp2
    go_loopw [4, 5] (fun o i wr => ∃ j : Nat, i = .int .i64 j ∧ j ≤ l.length ∧ Hid (Own w.heap.size 5 wr o (bytesTo l j)) ∧ Hid (Below w.heap.size w wr)) (fun _ i _ => l.length - (intOf i).toNat)
    case atStart => exact ⟨0, rfl, by omega, HO2, HB2⟩
    case round =>
      clear HO2 HB2
      obtain ⟨j, rfl, hj, HO, HW⟩ := hrel
      have tk1 : Hid True := trivial
      have tk2 : Hid True := trivial
      have tk3 : Hid True := trivial
      have tk4 : Hid True := trivial
      by_cases hjl : j < l.length
      · obtain ⟨bv, ov, rfl, hblt, hcell⟩ := HV.out.all (by omega)
        have HT : Hid (bytesTo l (j + 1) = bytesTo l j ++ bytesH (l.getD j hz)) := bytesTo_succ hjl
        have HL := HBL.out j
        obtain ⟨a, b, c, ex, ha, hb, hc0, ey⟩ := nats_of (to_of_right HR.out j hjl).1 (HV.out.ok j hjl)
        have HC : Hid (∀ w', Below w.heap.size w w' → w'.cell? ⟨bv, ov + j * 3, none⟩ = some (.int .i64 (a : Int)) ∧ w'.cell? ⟨bv, ov + j * 3 + 1, none⟩ = some (.int .i64 (b : Int)) ∧ w'.cell? ⟨bv, ov + j * 3 + 2, none⟩ = some (.int .u64 (c : Int))) := fun w' h => by have := hcell w' h j hjl; rwa [ex] at this
        have HE : Hid (bytesTo l (j + 1) = bytesTo l j ++ form a ++ form b ++ form c) := by show _ = _; rw [HT.out, ey]; simp
        have HFA : Hid ((form a).length ≤ 10) := form_le10 (by omega)
        have HFB : Hid ((form b).length ≤ 10) := form_le10 (by omega)
        have HFC : Hid ((form c).length ≤ 10) := form_le10 hc0
        clear hcell ex ey HT
        generalize bytesTo l j = m at HO HE HL
        have hN1 := fun w' => refnum a w' (by omega)
        have hN2 := fun w' => refnum b w' (by omega)
        have hN3 := fun w' => refnum c w' hc0
        obtain ⟨p0, p1, p2⟩ := HC.out wr HW.out
        go_wp2_with (first
          | (go_at_call 44; have _t := tk1; refine (hN1 _).mono ?_; rintro e w1 ⟨v1, rfl, ho1, hb1⟩
             have HB1 : Hid (Below w.heap.size w w1) := bnext HW.out hb1
             have HP1 : Hid (Own w.heap.size 5 w1 _ m) := HO.out.kept (below_grown hb1)
             have HQ1 : Hid (Rd w1 v1 (form a)) := ho1.rd
             clear hb1 ho1 tk1 _t)
          | (at_builtin; have _t := tk2; go_must (refine wpList_append_cells 49 5 byteTy rfl (.tmp 19) (.tmp 26) rfl w.heap.size _ m rfl HP1.out _ (form a) rfl HQ1.out (by have := HFA.out; omega) HB1.out.size ?_; intro va wa howna hga)
             have HBa : Hid (Below w.heap.size w wa) := HB1.out.grown hga HB1.out.size (fun k hk => (HP1.out.2.lt k hk).1)
             have HPa : Hid (Own w.heap.size 5 wa va (m ++ form a)) := howna
             obtain ⟨p0, p1, p2⟩ := HC.out wa HBa.out
             clear hga howna tk2 _t)
          | (go_at_call 44; have _t := tk3; refine (hN2 _).mono ?_; rintro e w2 ⟨v2, rfl, ho2, hb2⟩
             have HB2 : Hid (Below w.heap.size w w2) := bnext HBa.out hb2
             have HP2 : Hid (Own w.heap.size 5 w2 _ (m ++ form a)) := HPa.out.kept (below_grown hb2)
             have HQ2 : Hid (Rd w2 v2 (form b)) := ho2.rd
             clear hb2 ho2 tk3 _t)
          | (at_builtin; have _t := tk4; go_must (refine wpList_append_cells 49 5 byteTy rfl (.tmp 28) (.tmp 35) rfl w.heap.size _ (m ++ form a) rfl HP2.out _ (form b) rfl HQ2.out (by have := HFA.out; have := HFB.out; rw [List.length_append]; omega) HB2.out.size ?_; intro vb wb hownb hgb)
             have HBb : Hid (Below w.heap.size w wb) := HB2.out.grown hgb HB2.out.size (fun k hk => (HP2.out.2.lt k hk).1)
             have HPb : Hid (Own w.heap.size 5 wb vb (m ++ form a ++ form b)) := hownb
             obtain ⟨p0, p1, p2⟩ := HC.out wb HBb.out
             clear hgb hownb tk4 _t)
          | (go_at_call 44; refine (hN3 _).mono ?_; rintro e w3 ⟨v3, rfl, ho3, hb3⟩
             have HB3 : Hid (Below w.heap.size w w3) := bnext HBb.out hb3
             have HP3 : Hid (Own w.heap.size 5 w3 _ (m ++ form a ++ form b)) := HPb.out.kept (below_grown hb3)
             have HQ3 : Hid (Rd w3 v3 (form c)) := ho3.rd
             clear hb3 ho3)
          | (at_builtin; go_must (refine wpList_append_cells 49 5 byteTy rfl (.tmp 37) (.tmp 43) rfl w.heap.size _ (m ++ form a ++ form b) rfl HP3.out _ (form c) rfl HQ3.out (by have := HFA.out; have := HFB.out; have := HFC.out; rw [List.length_append, List.length_append]; omega) HB3.out.size ?_; intro vc wc hownc hgc)
             have HBc : Hid (Below w.heap.size w wc) := HB3.out.grown hgc HB3.out.size (fun k hk => (HP3.out.2.lt k hk).1)
             have HPc : Hid (Own w.heap.size 5 wc vc (m ++ form a ++ form b ++ form c)) := hownc
             clear hgc hownc))
        go_roundw
        case rel => exact ⟨j + 1, by go_num, by omega, (by show Own _ _ _ _ _; rw [HE.out]; exact HPc.out), HBc⟩
        case measure => simp [intOf]; omega
      · obtain rfl : j = l.length := by omega
        go_wp2
        go_ret2
        exact ⟨_, rfl, HO.out.rd, HW.out⟩
  · rw [bytesV_not hr]
    rw [rightB_false hr] at hA
    clear hv0 hr
    go_enter Try.func27, Try.ntmps27
    go_wp2_with (first
      | (go_at_call 14; refine (hA _ HV.out).mono ?_; rintro e w1 ⟨rfl, hb1⟩))
    go_ret2
    exact ⟨_, rfl, rd_nil _, hb1⟩
end Go.Proofs.Ytdjfedlkfekeoaa
