/-
  The law's newRoom.
-/
import Derived.Test.YtjbpfhnagiacmaaGreatRmI
import Derived.Test.YtjbpfhnagiacmaaGreatRmB
import Derived.Deep.CutBlock
namespace Go.Proofs.YtjbpfhnagiacmaaGreat
set_option linter.unusedVariables false
set_option linter.unusedSimpArgs false
set_option synthInstance.maxSize 20000
set_option maxHeartbeats 2000000
set_option maxRecDepth 20000
open Go.RowKit Go.Maps
def RoPost (w : World) (S : St) (k : Nat) (r : Ending) (w' : World) : Prop := ∃ p o sv tv, r = .returned (ptr p.wb) ∧ RG w w' o p (rnK S k).S (rnK S k).S (rnK S k).M (rnK S k).M (rnK S k).A (rnK S k).X (rnK S k).B sv tv
theorem newRoom8 {w : World} {dv : Value} {ds : List Int} (hd : RdU w dv ds) (hl : ds.length ≤ 1000) (many : Nat) (hm : many ≤ 20) : Calls Tryz.prog 8 #[dv, .int .i64 (many : Int)] w (RoPost w ⟨ds, []⟩ many) := by
  obtain ⟨S, hS⟩ : ∃ S : St, S = ⟨ds, []⟩ := ⟨_, rfl⟩
  have HOS : Hid (Ora S 0) := (show Ora _ _ by rw [hS]; exact ora00 hd.1)
  have HNw : Hid (∀ w' o', Below w.heap.size w w' → Calls Tryz.prog 20 #[dv] w' fun e w'' => ∃ b, e = .returned (ptr b) ∧ OrcAt w'' (newTo o' w' 1) b S ∧ Mv [] w' o' w'' (newTo o' w' 1)) := fun w' o' hb => by
    rw [hS]
    exact orc_new o' (hd.block (fun k _ hk => hb.block k hk)) (by omega)
  have HRN : Hid (∀ w' o', Below w.heap.size w w' → (∀ k, k < w.heap.size → o' k = 0) → ROrc w (w'.alloc (.cells #[dv, .slice none 0 0] 57)) (newTo o' w' 8) w'.heap.size S) := fun w' o' hb h3 => by
    rw [hS]
    exact rorc_new hb hd h3
  rw [← hS]
  obtain ⟨_, da, dc, rfl, _⟩ := hd
  obtain ⟨dn, hdn⟩ : ∃ dn, dn = ds.length := ⟨_, rfl⟩
  rw [← hdn] at HNw HRN ⊢
  have HL : Hid (∀ w1 ob1, Mv [] w (fun _ => 0) w1 (newTo (fun _ => 0) w 1) → OrcAt w1 (newTo (fun _ => 0) w 1) ob1 S → ∃ o2, OrcAt (w1.alloc (.cells #[.slice da dn dc, .slice none 0 0] 57)) o2 ob1 S ∧ ROrc w (w1.alloc (.cells #[.slice da dn dc, .slice none 0 0] 57)) o2 w1.heap.size S) := fun w1 ob1 hM1 hO1 => by
    have hb1 : Below w.heap.size w w1 := hM1.below (Nat.le_refl _) (by simp)
    refine ⟨newTo (newTo (fun _ => 0) w 1) w1 8, hO1.mv (Mv.of_below (I := []) 8 (balloc (Below.refl _ _) _)) (by simp), HRN.out w1 _ hb1 (fun k hk => ?_)⟩
    rw [newTo_old hk]
  obtain ⟨M0, hM0⟩ : ∃ M0, M0 = (rn0 S).M := ⟨_, rfl⟩
  obtain ⟨s0, hs0⟩ : ∃ s0, s0 = S.fresh := ⟨_, rfl⟩
  obtain ⟨p0, hp0⟩ : ∃ p0, p0 = (S.put .secret).fresh := ⟨_, rfl⟩
  obtain ⟨t0, ht0⟩ : ∃ t0, t0 = S.pair.fresh := ⟨_, rfl⟩
  obtain ⟨q0, hq0⟩ : ∃ q0, q0 = (S.pair.put .secret).fresh := ⟨_, rfl⟩
  obtain ⟨S1, hS1⟩ : ∃ S1, S1 = S.pair := ⟨_, rfl⟩
  obtain ⟨S2, hS2⟩ : ∃ S2, S2 = S.pair.pair := ⟨_, rfl⟩
  have HPa : Hid (∀ w' o' b, OrcAt w' o' b S → Calls Tryz.prog 21 #[ptr b] w' fun e w'' => e = .returned (.tuple #[.int .u64 s0, .int .u64 p0]) ∧ ∃ o'', OrcAt w'' o'' b S1 ∧ Mv [1] w' o' w'' o'') := fun w' o' b h => by
    rw [hs0, hp0, hS1]
    exact orc_pair h HOS.out (by omega)
  have HPb : Hid (∀ w' o' b, OrcAt w' o' b S1 → Calls Tryz.prog 21 #[ptr b] w' fun e w'' => e = .returned (.tuple #[.int .u64 t0, .int .u64 q0]) ∧ ∃ o'', OrcAt w'' o'' b S2 ∧ Mv [1] w' o' w'' o'') := fun w' o' b h => by
    rw [ht0, hq0, hS2]
    rw [hS1] at h
    exact orc_pair h (HOS.out.pair (by omega)) (by omega)
  have HPc : Hid (∀ w' o' b, ROrc w w' o' b S → Calls Tryz.prog 22 #[ptr b] w' fun e w'' => e = .returned (.tuple #[.int .u64 s0, .int .u64 p0]) ∧ ∃ o'', ROrc w w'' o'' b S1 ∧ Mv [8] w' o' w'' o'') := fun w' o' b h => by
    rw [hs0, hp0, hS1]
    exact rorc_pair h HOS.out (by omega)
  have HPd : Hid (∀ w' o' b, ROrc w w' o' b S1 → Calls Tryz.prog 22 #[ptr b] w' fun e w'' => e = .returned (.tuple #[.int .u64 t0, .int .u64 q0]) ∧ ∃ o'', ROrc w w'' o'' b S2 ∧ Mv [8] w' o' w'' o'') := fun w' o' b h => by
    rw [ht0, hq0, hS2]
    rw [hS1] at h
    exact rorc_pair h (HOS.out.pair (by omega)) (by omega)
  have HR0 : Hid (rn0 S = ⟨S2, ⟨[⟨0, p0, 0, -1, 0⟩], -1⟩, ⟨0, s0, [], []⟩, ⟨1, t0, [], []⟩, ⟨0, s0, [], []⟩, 0⟩) := (show _ = _ by rw [hS2, hp0, hs0, ht0]; rfl)
  have HRk : Hid (∀ k, k ≤ 20 → ∃ p s K O, RI (rnK S k) k p s K O) := fun k hk => by
    obtain ⟨K, O, h⟩ := rnK_ok HOS.out k hk
    exact ⟨_, _, K, O, h⟩
  clear hS hdn hl HRN hs0 hp0 ht0 hq0 hS1 hS2 hM0 M0 HOS
  go_enter Tryz.func8, Tryz.ntmps8
  go_upto_region 1 with fail
  go_cut [5] (fun bv wx => ∃ (wb ob rr : Nat) (o1 : Nat → Nat), bv = ptr wb ∧ Hid (RoI w wx o1 wb ob rr 0 0 0 S S ⟨0, s0, [], []⟩ ⟨1, t0, [], []⟩ ⟨0, s0, [], []⟩ false false false [ptr ob, ptr rr, .pointer none, .pointer none, .pointer none, .int .u64 0]))
  case first =>
    go_wp2_with (go_at_call 20; go_must (refine (HNw.out w (fun _ => 0) (Below.refl _ _)).mono ?_; rintro r w5 ⟨ob1, rfl, hO5, hM5⟩; obtain ⟨o7, hO7, hR7⟩ := HL.out w5 ob1 hM5 hO5))
    have HE := roi0 (w0 := w) (A := ⟨0, s0, [], []⟩) (X := ⟨1, t0, [], []⟩) (B := ⟨0, s0, [], []⟩) hO7 hR7
    rw [show (w5.alloc (.cells #[.slice da dn dc, .slice none 0 0] 57)).heap.size = w5.heap.size + 1 by simp] at HE
    go_meet
    exact ⟨_, _, _, _, rfl, HE⟩
  case rest =>
    obtain ⟨wb, ob, rr, o1, rfl, HN⟩ := hcut
    obtain ⟨W1, hW1⟩ : ∃ W1, W1 = wc := ⟨_, rfl⟩
    subst hW1
    clear HNw HL
    have b0 := HN.out.blk.cell 0 _ rfl
    go_upto_region 3 with (go_at_call 21; go_must (refine (HPa.out _ _ _ HN.out.orc).mono ?_; rintro r w2 ⟨rfl, o2, hO2, hM2⟩))
    have HN2 : Hid (RoI w w2 o2 wb ob rr 0 0 0 S1 S ⟨0, s0, [], []⟩ ⟨1, t0, [], []⟩ ⟨0, s0, [], []⟩ false false false [ptr ob, ptr rr, .pointer none, .pointer none, .pointer none, .int .u64 0]) := HN.out.orcS hM2 hO2
    clear HN hO2 hM2 b0 HPa
    have b0 := HN2.out.blk.cell 0 _ rfl
    go_upto_region 4 with (go_at_call 21; go_must (refine (HPb.out _ _ _ HN2.out.orc).mono ?_; rintro r w3 ⟨rfl, o3, hO3, hM3⟩))
    have HN3 : Hid (RoI w w3 o3 wb ob rr 0 0 0 S2 S ⟨0, s0, [], []⟩ ⟨1, t0, [], []⟩ ⟨0, s0, [], []⟩ false false false [ptr ob, ptr rr, .pointer none, .pointer none, .pointer none, .int .u64 0]) := HN2.out.orcS hM3 hO3
    clear HN2 hO3 hM3 b0 HPb
    have b1 := HN3.out.blk.cell 1 _ rfl
    go_upto_region 5 with (go_at_call 22; go_must (refine (HPc.out _ _ _ HN3.out.rorc).mono ?_; rintro r w4 ⟨rfl, o4, hO4, hM4⟩))
    have HN4 : Hid (RoI w w4 o4 wb ob rr 0 0 0 S2 S1 ⟨0, s0, [], []⟩ ⟨1, t0, [], []⟩ ⟨0, s0, [], []⟩ false false false [ptr ob, ptr rr, .pointer none, .pointer none, .pointer none, .int .u64 0]) := HN3.out.rorcS hM4 hO4
    clear HN3 hO4 hM4 b1 HPc
    have b1 := HN4.out.blk.cell 1 _ rfl
    go_upto_region 6 with (go_at_call 22; go_must (refine (HPd.out _ _ _ HN4.out.rorc).mono ?_; rintro r w5 ⟨rfl, o5, hO5, hM5⟩))
    have HN5 : Hid (RoI w w5 o5 wb ob rr 0 0 0 S2 S2 ⟨0, s0, [], []⟩ ⟨1, t0, [], []⟩ ⟨0, s0, [], []⟩ false false false [ptr ob, ptr rr, .pointer none, .pointer none, .pointer none, .int .u64 0]) := HN4.out.rorcS hM5 hO5
    clear HN4 hO5 hM5 b1 HPd
    have b5 := HN5.out.blk.cell 5 _ rfl
    have c5 := HN5.out.blk.frozen 5
    go_upto_region 7 with fail
    have hN6 := HN5.out.set 5 (.int .u64 p0)
    generalize w5.setCell ⟨wb, 5, none⟩ (.int .u64 p0) = w6 at *
    generalize newTo o5 w5 9 = o6 at *
    have HN6 : Hid (RoI w w6 o6 wb ob rr 0 0 0 S2 S2 ⟨0, s0, [], []⟩ ⟨1, t0, [], []⟩ ⟨0, s0, [], []⟩ false false false [ptr ob, ptr rr, .pointer none, .pointer none, .pointer none, .int .u64 p0]) := hN6
    clear hN6 HN5 b5 c5
    have b0 := HN6.out.blk.cell 0 _ rfl
    have HR7 := new23 w6 o6 10 ob 0 s0 (by omega) (by omega)
    go_upto_region 8 with (go_at_call 23; go_must (refine HR7.mono ?_; rintro r w7 ⟨rfl, hr7, hb7⟩))
    have hN7 := HN6.out.ringA hb7 hr7
    generalize newTo o6 w6 10 = o7 at *
    obtain ⟨ra, hra⟩ : ∃ ra, ra = w6.heap.size := ⟨_, rfl⟩
    rw [← hra] at hN7 ⊢
    have HN7 : Hid (RoI w w7 o7 wb ob rr ra 0 0 S2 S2 ⟨0, s0, [], []⟩ ⟨1, t0, [], []⟩ ⟨0, s0, [], []⟩ true false false [ptr ob, ptr rr, .pointer none, .pointer none, .pointer none, .int .u64 p0]) := hN7
    clear hN7 HN6 HR7 hr7 hb7 hra b0
    have b0 := HN7.out.blk.cell 0 _ rfl
    have HR8 := new23 w7 o7 11 ob 1 t0 (by omega) (by omega)
    go_upto_region 9 with (go_at_call 23; go_must (refine HR8.mono ?_; rintro r w8 ⟨rfl, hr8, hb8⟩))
    have hN8 := HN7.out.ringX hb8 hr8
    generalize newTo o7 w7 11 = o8 at *
    obtain ⟨rx, hrx⟩ : ∃ rx, rx = w7.heap.size := ⟨_, rfl⟩
    rw [← hrx] at hN8 ⊢
    have HN8 : Hid (RoI w w8 o8 wb ob rr ra rx 0 S2 S2 ⟨0, s0, [], []⟩ ⟨1, t0, [], []⟩ ⟨0, s0, [], []⟩ true true false [ptr ob, ptr rr, .pointer none, .pointer none, .pointer none, .int .u64 p0]) := hN8
    clear hN8 HN7 HR8 hr8 hb8 hrx b0
    have b2 := HN8.out.blk.cell 2 _ rfl
    have c2 := HN8.out.blk.frozen 2
    go_upto_region 12 with fail
    have hN9 := HN8.out.set 2 (ptr ra)
    generalize w8.setCell ⟨wb, 2, none⟩ (ptr ra) = w9 at *
    generalize newTo o8 w8 9 = o9 at *
    have HN9 : Hid (RoI w w9 o9 wb ob rr ra rx 0 S2 S2 ⟨0, s0, [], []⟩ ⟨1, t0, [], []⟩ ⟨0, s0, [], []⟩ true true false [ptr ob, ptr rr, ptr ra, .pointer none, .pointer none, .int .u64 p0]) := hN9
    clear hN9 HN8 b2 c2
    have b3 := HN9.out.blk.cell 3 _ rfl
    have c3 := HN9.out.blk.frozen 3
    go_upto_region 13 with fail
    have hN10 := HN9.out.set 3 (ptr rx)
    generalize w9.setCell ⟨wb, 3, none⟩ (ptr rx) = w10 at *
    generalize newTo o9 w9 9 = o10 at *
    have HN10 : Hid (RoI w w10 o10 wb ob rr ra rx 0 S2 S2 ⟨0, s0, [], []⟩ ⟨1, t0, [], []⟩ ⟨0, s0, [], []⟩ true true false [ptr ob, ptr rr, ptr ra, ptr rx, .pointer none, .int .u64 p0]) := hN10
    clear hN10 HN9 b3 c3
    obtain ⟨w11, hw11⟩ : ∃ w11, w11 = w10.alloc (.cells #[.int .i64 0, .int .u64 s0, .slice none 0 0, .slice none 0 0] 64) := ⟨_, rfl⟩
    have hN11 := HN10.out.ringB (balloc (Below.refl _ _) _) (rring_new (o := o10) (w := w10) 20 0 s0)
    rw [← hw11] at hN11
    generalize newTo o10 w10 20 = o11 at *
    obtain ⟨rb, hrb⟩ : ∃ rb, rb = w10.heap.size := ⟨_, rfl⟩
    rw [← hrb] at hN11
    have b4 := hN11.blk.cell 4 _ rfl
    have c4 := hN11.blk.frozen 4
    have d4 : (w10.alloc (.cells #[.int .i64 0, .int .u64 s0, .slice none 0 0, .slice none 0 0] 64)).cell? ⟨wb, 4, none⟩ = some (.pointer none) := by rw [← hw11]; exact b4
    have e4 : (w10.alloc (.cells #[.int .i64 0, .int .u64 s0, .slice none 0 0, .slice none 0 0] 64)).frozen? ⟨wb, 4, none⟩ = false := by rw [← hw11]; exact c4
    have HX : Hid (w10.alloc (.cells #[.int .i64 0, .int .u64 s0, .slice none 0 0, .slice none 0 0] 64) = w11 ∧ w10.heap.size = rb) := ⟨hw11.symm, hrb.symm⟩
    clear hw11 hrb b4 c4
    go_upto_region 14 with fail
    rw [HX.out.1, HX.out.2]
    have hN12 := hN11.set 4 (ptr rb)
    generalize w11.setCell ⟨wb, 4, none⟩ (ptr rb) = w12 at *
    generalize newTo o11 w11 9 = o12 at *
    have HN12 : Hid (RoI w w12 o12 wb ob rr ra rx rb S2 S2 ⟨0, s0, [], []⟩ ⟨1, t0, [], []⟩ ⟨0, s0, [], []⟩ true true true (rcs ⟨wb, ob, rr, ra, rx, rb, 0, 0, p0⟩)) := hN12
    clear hN12 hN11 HN10 d4 e4 HX
    have HNs : Hid (∀ w', Calls Tryz.prog 24 #[.int .u64 p0] w' fun r w'' => ∃ v, r = .returned (stv v (-1)) ∧ RowF mc w'' v [⟨0, p0, 0, -1, 0⟩] ∧ (∀ j, v.ownBlock = some j → w'.heap.size ≤ j) ∧ Below w'.heap.size w' w'') := fun w' => new10f p0 w'
    have HNt : Hid (∀ w', Calls Tryz.prog 25 #[.int .u64 p0] w' fun r w'' => ∃ v, r = .returned (stv v (-1)) ∧ RowF mc w'' v [⟨0, p0, 0, -1, 0⟩] ∧ (∀ j, v.ownBlock = some j → w'.heap.size ≤ j) ∧ Below w'.heap.size w' w'') := fun w' => rnew11f p0 w'
    unfold stv at HNs HNt
    go_upto_region 15 with (first
      | (go_at_call 24; go_must (refine (HNs.out w12).mono ?_; rintro r w13 ⟨v13, rfl, hr13, hn13, hb13⟩; obtain ⟨x13, y13, hv13⟩ := hr13.len; subst hv13))
      | (go_at_call 25; go_must (refine (HNt.out w13).mono ?_; rintro r w14 ⟨v14, rfl, hr14, hn14, hb14⟩; obtain ⟨x14, y14, hv14⟩ := hr14.len; subst hv14)))
    obtain ⟨o14, ho14⟩ : ∃ o14, o14 = newTo (newTo o12 w12 0) w13 0 := ⟨_, rfl⟩
    have hN14 := (HN12.out.mv (Mv.of_below (I := []) 0 hb13)).mv (Mv.of_below (I := []) 0 hb14)
    have hs14 : KpF mc w14 o14 (.slice x13 1 y13) [⟨0, p0, 0, -1, 0⟩] := by
      rw [ho14]
      exact (KpF.of_new (o := o12) mc_pos hr13 hn13).mv (Mv.of_below (I := []) 0 hb14) (by simp)
    have ht14 : KpF mc w14 o14 (.slice x14 1 y14) [⟨0, p0, 0, -1, 0⟩] := by
      rw [ho14]
      exact KpF.of_new mc_pos hr14 hn14
    rw [← ho14] at hN14
    obtain ⟨p, hp⟩ : ∃ p : Rp, p = ⟨wb, ob, rr, ra, rx, rb, w14.heap.size, w14.heap.size + 1, p0⟩ := ⟨_, rfl⟩
    have hG : RG w ((w14.alloc (.cells #[.slice x13 1 y13, .int .i64 (-1)] 67)).alloc (.cells #[.slice x14 1 y14, .int .i64 (-1)] 71)) (newTo o14 w14 7) p S2 S2 ⟨[⟨0, p0, 0, -1, 0⟩], -1⟩ ⟨[⟨0, p0, 0, -1, 0⟩], -1⟩ ⟨0, s0, [], []⟩ ⟨1, t0, [], []⟩ ⟨0, s0, [], []⟩ (.slice x13 1 y13) (.slice x14 1 y14) := by
      refine RoI.done (p := p) (M := ⟨[⟨0, p0, 0, -1, 0⟩], -1⟩) (K := ⟨[⟨0, p0, 0, -1, 0⟩], -1⟩) (by rw [hp]; exact hN14) hs14 ht14 (balloc (balloc (Below.refl _ _) _) _) ?_ ?_ ?_ ?_
      · rw [hp]
        exact (blk_new w14 [.slice x13 1 y13, .int .i64 (-1)] 67).below (balloc (Below.refl _ _) _)
      · rw [hp]
        have h1 := blk_new (w14.alloc (.cells #[.slice x13 1 y13, .int .i64 (-1)] 67)) [.slice x14 1 y14, .int .i64 (-1)] 71
        rwa [show (w14.alloc (.cells #[.slice x13 1 y13, .int .i64 (-1)] 67)).heap.size = w14.heap.size + 1 by simp] at h1
      · rw [hp]; exact Nat.le_refl _
      · rw [hp]; exact Nat.le_succ _
    have HG : Hid (RG w ((w14.alloc (.cells #[.slice x13 1 y13, .int .i64 (-1)] 67)).alloc (.cells #[.slice x14 1 y14, .int .i64 (-1)] 71)) (newTo o14 w14 7) p (rnK S 0).S (rnK S 0).S (rnK S 0).M (rnK S 0).M (rnK S 0).A (rnK S 0).X (rnK S 0).B (.slice x13 1 y13) (.slice x14 1 y14)) := by
      show RG _ _ _ _ (rn0 S).S (rn0 S).S (rn0 S).M (rn0 S).M (rn0 S).A (rn0 S).X (rn0 S).B _ _
      rw [HR0.out]
      exact hG
    have HL0 : Hid ((rnK S 0).last = 0) := rfl
    have ew1 : wb = p.wb := by rw [hp]
    have es1 : w14.heap.size = p.sb := by rw [hp]
    have et1 : w14.heap.size + 1 = p.tb := by rw [hp]
    generalize ((w14.alloc (.cells #[.slice x13 1 y13, .int .i64 (-1)] 67)).alloc (.cells #[.slice x14 1 y14, .int .i64 (-1)] 71)) = w15 at *
    rw [et1, es1, ew1]
    generalize newTo o14 w14 7 = o15 at *
    clear hG hp hN14 hs14 ht14 ho14 hr13 hn13 hb13 hr14 hn14 hb14 HN12 HNs HNt HR0 ew1 es1 et1
    go_upto_region 16 with fail
    go_wp2
    go_loopw [17, 16] (fun iv lv wr => ∃ k : Nat, iv = .int .i64 k ∧ k ≤ many ∧ lv = .int .u64 (rnK S k).last ∧ ∃ (oR : Nat → Nat) (sv tv : Value), Hid (RG w wr oR p (rnK S k).S (rnK S k).S (rnK S k).M (rnK S k).M (rnK S k).A (rnK S k).X (rnK S k).B sv tv)) (fun iv _ _ => many - (intOf iv).toNat)
    case atStart => exact ⟨0, rfl, by omega, rfl, o15, _, _, HG.out⟩
    case round =>
      obtain ⟨k, rfl, hk, rfl, oR, sv, tv, HWG⟩ := hrel
      by_cases hkn : k < many
      · obtain ⟨pp, ss, KK, OO, hRI⟩ := HRk.out k (by omega)
        obtain ⟨R1, hR1⟩ : ∃ R1, R1 = rnK S (k + 1) := ⟨_, rfl⟩
        obtain ⟨R, hR⟩ : ∃ R, R = rnK S k := ⟨_, rfl⟩
        have hR2 : R1 = rnN R := by rw [hR1, hR]; rfl
        rw [← hR] at HWG hRI
        rw [← hR]
        have hbg := hRI.begin (by omega)
        obtain ⟨ha1, ha2, ha3⟩ := hRI.app (by omega)
        have hml : R.M.l.length = 1 := by rw [hRI.m]; rfl
        have hme : EOk R.M.e := (hRI.mok (by omega)).e
        have hMO := hRI.mok (by omega)
        have hmo : ∀ m ∈ R.M.l, U64 m.p ∧ I64 m.w := fun m hm => by
          rw [hRI.m] at hm
          simp at hm
          subst hm
          exact ⟨hRI.pu, by unfold I64; dsimp only; omega⟩
        have hmp : R.M.l ≠ [] := by rw [hRI.m]; simp
        obtain ⟨B, hB⟩ : ∃ B, B = rnB R := ⟨_, rfl⟩
        have hco : B.c.o.length ≤ 24 := by
          rw [hB, ha2]
          by_cases he : R.M.e = -1
          · show (rnB R).o.length ≤ 24
            rw [show (rnB R).o = [] from hbg.old0 he]; simp
          · obtain ⟨g, _, h2, _⟩ := hbg.old1 he
            show (rnB R).o.length ≤ 24
            rw [show (rnB R).o = boxOf g 16 from h2, boxOf_length]
            exact Nat.le_refl 24
        have hcw : B.c.ws.length ≤ 1000 := by
          rw [hB, ha2]
          have h3 := congrArg List.length hbg.whos
          rw [List.length_map, List.length_map] at h3
          show (rnB R).ws.length ≤ 1000
          rw [show (rnB R).ws.length = (nowM R.M.l).length from h3, hRI.m]
          dsimp only
          rw [nowM_one]
          simp
        have hora : Ora B.S 1000 := by
          rw [hB]
          exact (begin_ora hRI.ora R.M.l R.M.e R.last (by omega)).le (by omega)
        have HBk : Hid (B.k = 0) := (show B.k = 0 by rw [hB]; exact hbg.k)
        obtain ⟨M1, hM1⟩ : ∃ M1 : Sm, M1 = ⟨R.M.l, R.M.e + 1⟩ := ⟨_, rfl⟩
        have HA : Hid (applyM R.M B.c = (M1, 0)) := (show _ = _ by rw [hB, hM1]; exact ha3)
        obtain ⟨A1, hA1⟩ : ∃ A1, A1 = (learnP B.S R.A B.c).1 := ⟨_, rfl⟩
        obtain ⟨X1, hX1⟩ : ∃ X1, X1 = (learnP B.S R.X B.c).1 := ⟨_, rfl⟩
        obtain ⟨B1, hB1⟩ : ∃ B1, B1 = (learnR B.S R.B B.c).1 := ⟨_, rfl⟩
        have HEnd : Hid (rnK S (k + 1) = ⟨B.S, M1, A1, X1, B1, B.key⟩) := (show _ = _ by rw [← hR1, hR2, hA1, hX1, hB1, hM1, hB]; rfl)
        have HBg : Hid (∀ w' o', Mv [] wr oR w' o' → Calls Tryz.prog 26 #[ptr p.ob, stv sv R.M.e, .int .u64 R.last] w' (BgPost w' o' p.ob B)) := fun w' o' m' => by
          have hw := HWG.out.mv m' (by simp)
          rw [hB]
          exact begin15 hw.orc hRI.ora hw.s (by omega) (by omega) hmo hme hRI.lu
        have HRB : Hid (∀ W oW, RG w W oW p B.S R.S R.M R.M R.A R.X R.B sv tv → ∀ w' o', Mv [] W oW w' o' → Calls Tryz.prog 27 #[ptr p.rr, stv tv R.M.e, .int .u64 R.last] w' (RBgPost w w' o' p.rr B)) := fun W oW h w' o' m' => by
          have hw := h.mv m' (by simp)
          rw [hB]
          exact rbegin29 hw.rorc hRI.ora hw.t (by omega) (by omega) hmo hme hRI.lu
        have HMo : Hid (MOk R.M ∧ R.M.l.length = 1 ∧ R.M.l ≠ []) := ⟨hMO, hml, hmp⟩
        have HBs : Hid (Ora B.S 1000 ∧ B.c.o.length ≤ 24 ∧ B.c.ws.length ≤ 1000) := ⟨hora, hco, hcw⟩
        have HLn : Hid (A1 = (learnP B.S R.A B.c).1 ∧ X1 = (learnP B.S R.X B.c).1 ∧ B1 = (learnR B.S R.B B.c).1) := ⟨hA1, hX1, hB1⟩
        unfold stv at HBg HRB
        have hsv : sv.oneCell' = true := by
          obtain ⟨a, c, e⟩ := HWG.out.s.slice
          rw [e]; rfl
        obtain ⟨sa, sc, hsl⟩ := HWG.out.s.slice
        obtain ⟨ta, tc, htl⟩ := HWG.out.t.slice
        obtain ⟨ns, hns⟩ : ∃ ns, ns = R.M.l.length := ⟨_, rfl⟩
        rw [← hns] at hsl htl
        subst hsl htl
        obtain ⟨e0, he0⟩ : ∃ e0, e0 = R.M.e := ⟨_, rfl⟩
        have HE0 : Hid (e0 = R.M.e) := he0
        obtain ⟨d, hd1, hd2, hd3⟩ := fresh_owner wr oR 30
        have HFr : Hid (30 < d ∧ ∀ k, k < wr.heap.size → oR k ≠ d) := ⟨hd2, hd3⟩
        clear hR1 hR hR2 hRI hbg ha1 ha2 ha3 hml hme hMO hmo hmp hB hco hcw hora hM1 hA1 hX1 hB1 hns he0 HE0 hsv hd1 hd2 hd3
        go_upto_region 19 with fail
        have ne9 : Nonempty (WIn (fun w' => Blk w' p.wb 42 (rcs p) ∧ Blk w' p.sb 67 [.slice sa ns sc, .int .i64 R.M.e])) := ⟨⟨wr, HWG.out.blk, HWG.out.sb⟩⟩
        have z0 : ∀ z : WIn (fun w' => Blk w' p.wb 42 (rcs p) ∧ Blk w' p.sb 67 [.slice sa ns sc, .int .i64 R.M.e]), _ := fun z => z.ok.1.cell 0 _ rfl
        have z1 : ∀ z : WIn (fun w' => Blk w' p.wb 42 (rcs p) ∧ Blk w' p.sb 67 [.slice sa ns sc, .int .i64 R.M.e]), _ := fun z => z.ok.2.cell 0 _ rfl
        have z2 : ∀ z : WIn (fun w' => Blk w' p.wb 42 (rcs p) ∧ Blk w' p.sb 67 [.slice sa ns sc, .int .i64 R.M.e]), _ := fun z => z.ok.2.cell 1 _ rfl
        go_cut [18, 19, 20] (fun av pv iv wx => ∃ (ab : Nat) (xa5 : Option Addr) (na5 pa5 : Nat) (xb5 : Option Addr) (nb5 pb5 : Nat) (qs5 : List Wq) (o5 : Nat → Nat), av = ptr ab ∧ pv = .int .u64 B.key ∧ iv = .int .i64 B.k ∧ Hid (RG w wx o5 p B.S R.S R.M R.M R.A R.X R.B (.slice sa ns sc) (.slice ta ns tc)) ∧ Hid (CVar wx o5 ab 75 B.c (.slice xa5 na5 pa5) (.slice xb5 nb5 pb5) qs5) ∧ Hid (Mv [1] wr oR wx o5))
        case first =>
          as_aux_lemma =>
            refine wp_region_tree (C := fun w' => ∃ z : WIn (fun w' => Blk w' p.wb 42 (rcs p) ∧ Blk w' p.sb 67 [.slice sa ns sc, .int .i64 R.M.e]), w' = z.w) (.still 0 (.still 1 (.still 2 (.still 3 (.still 4 (.still 5 (.two 6 (.still 7 (.still 8 (.still 9 (.still 10 (.one 11 (.one 12 (.still 13 (.still 14 .done)))))))) 11 (.one 6 (.still 7 (.still 8 (.still 9 (.still 10 (.one 12 (.still 13 (.still 14 .done))))))))))))))) (by kernel_rfl) (by kernel_rfl) ⟨⟨wr.drew, HWG.out.blk, HWG.out.sb⟩, rfl⟩ ?_
            iterate 6 (refine tree_still rfl rfl ?_; go_big_quiet_step (exact rfl); refine wpQuiet_nil ?_)
            refine tree_two rfl rfl rfl rfl ?_ ?_
            · go_simp
              refine (HBg.out wr.drew oR (mv_drew _ _ _)).mono ?_
              rintro r w5 ⟨a5, b5, rfl, o5, qs5, hO5, hC5, hK5, hq5, hb5, hM5⟩
              obtain ⟨⟨xa5, na5, pa5, ea5⟩, xb5, nb5, pb5, eb5⟩ := slices_of hC5
              subst ea5 eb5
              have hg5 := (HWG.out.orcS hM5.drew hO5)
              have hW5 := And.intro hg5.blk hg5.sb
              refine ⟨⟨⟨w5, hW5⟩, rfl⟩, ?_⟩
              unfold cv
              go_simp
              iterate 4 (refine tree_still rfl rfl ?_; go_big_quiet_step (exact rfl); refine wpQuiet_nil ?_)
              refine tree_one rfl rfl ?_
              go_simp
              refine ⟨⟨⟨_, hW5.1.alloc _, hW5.2.alloc _⟩, rfl⟩, ?_⟩
              go_simp
              refine tree_one rfl rfl ?_
              have He := bgA_new HWG.out hO5 hC5 hK5 hq5 hb5 hM5
              go_simp
              refine ⟨⟨⟨_, He.1.blk, He.1.sb⟩, rfl⟩, ?_⟩
              go_simp
              iterate 2 (refine tree_still rfl rfl ?_; go_big_quiet_step (exact rfl); refine wpQuiet_nil ?_)
              refine tree_done ?_
              go_wp2
              go_meet
              exact ⟨w5.heap.size, xa5, na5, pa5, xb5, nb5, pb5, qs5, _, rfl, rfl, rfl, He.1, He.2.1, He.2.2⟩
            · go_simp
              obtain ⟨w7, hw7⟩ : ∃ w7, w7 = (wr.alloc (.cells #[.int .i64 0, .int .i64 0, .int .u64 0, .int .i64 0, .slice none 0 0, .slice none 0 0] 75)).drew := ⟨_, rfl⟩
              have HW7 : Hid (w7 = (wr.alloc (.cells zC6 75)).drew) := hw7
              rw [← hw7]
              obtain ⟨o7, ho7⟩ : ∃ o7, o7 = newTo oR wr d := ⟨_, rfl⟩
              have HM7 : Hid (Mv [] wr oR w7 o7) := (by rw [hw7, ho7]; exact (Mv.of_below (I := []) d (balloc (Below.refl _ _) _)).trans (mv_drew _ _ _))
              have HO7 : Hid (o7 = newTo oR wr d) := ho7
              clear hw7 ho7
              have hg7 := HWG.out.mv HM7.out (by simp)
              refine ⟨⟨⟨w7, hg7.blk, hg7.sb⟩, rfl⟩, ?_⟩
              clear hg7
              go_simp
              refine tree_one rfl rfl ?_
              go_simp
              refine (HBg.out w7 o7 HM7.out).mono ?_
              rintro r w5 ⟨a5, b5, rfl, o5, qs5, hO5, hC5, hK5, hq5, hb5, hM5⟩
              obtain ⟨⟨xa5, na5, pa5, ea5⟩, xb5, nb5, pb5, eb5⟩ := slices_of hC5
              subst ea5 eb5
              have hg5 := ((HWG.out.mv HM7.out (by simp)).orcS hM5 hO5)
              rw [HW7.out] at hM5
              have hW5 := And.intro hg5.blk hg5.sb
              refine ⟨⟨⟨w5, hW5⟩, rfl⟩, ?_⟩
              unfold cv
              go_simp
              iterate 4 (refine tree_still rfl rfl ?_; go_big_quiet_step (exact rfl); refine wpQuiet_nil ?_)
              refine tree_one rfl rfl ?_
              rw [HO7.out] at hM5
              have He := bgA_put HWG.out HFr.out.1 HFr.out.2 hO5 hC5 hK5 hq5 hb5 hM5
              have Y5 := bgA_zero HFr.out.1 hM5
              have j0 := Y5.cell 0 _ rfl; have i0 := Y5.frozen 0; have j1 := Y5.cell 1 _ rfl; have i1 := Y5.frozen 1; have j2 := Y5.cell 2 _ rfl; have i2 := Y5.frozen 2; have j3 := Y5.cell 3 _ rfl; have i3 := Y5.frozen 3; have j4 := Y5.cell 4 _ rfl; have i4 := Y5.frozen 4; have j5 := Y5.cell 5 _ rfl; have i5 := Y5.frozen 5
              clear Y5
              go_simp
              refine ⟨⟨⟨_, He.1.blk, He.1.sb⟩, rfl⟩, ?_⟩
              go_simp
              iterate 2 (refine tree_still rfl rfl ?_; go_big_quiet_step (exact rfl); refine wpQuiet_nil ?_)
              refine tree_done ?_
              go_wp2
              go_meet
              exact ⟨wr.heap.size, xa5, na5, pa5, xb5, nb5, pb5, qs5, _, rfl, rfl, rfl, He.1, He.2.1, He.2.2⟩
        obtain ⟨cb, xa1, na1, pa1, xb1, nb1, pb1, qs1, oA, rfl, rfl, rfl, HW5, HV5, HM5⟩ := hcut
        obtain ⟨W2, hW2⟩ : ∃ W2, W2 = wc := ⟨_, rfl⟩
        subst hW2
        clear ne9 z0 z1 z2 HBg HFr HWG HM5
        obtain ⟨d, hd1, hd2, hd3⟩ := fresh_owner W2 oA 30
        have HFr : Hid (30 < d ∧ ∀ k, k < W2.heap.size → oA k ≠ d) := ⟨hd2, hd3⟩
        have HRg : Hid (∀ w' o', Mv [] W2 oA w' o' → Calls Tryz.prog 27 #[ptr p.rr, .agg #[.slice ta ns tc, .int .i64 R.M.e], .int .u64 R.last] w' (RBgPost w w' o' p.rr B)) := fun w' o' m' => HRB.out W2 oA HW5.out w' o' m'
        clear hd1 hd2 hd3 HRB
        go_upto_region 20 with fail
        have ne9 : Nonempty (WIn (fun w' => Blk w' p.wb 42 (rcs p) ∧ Blk w' p.tb 71 [.slice ta ns tc, .int .i64 R.M.e])) := ⟨⟨W2, HW5.out.blk, HW5.out.tb⟩⟩
        have z0 : ∀ z : WIn (fun w' => Blk w' p.wb 42 (rcs p) ∧ Blk w' p.tb 71 [.slice ta ns tc, .int .i64 R.M.e]), _ := fun z => z.ok.1.cell 1 _ rfl
        have z1 : ∀ z : WIn (fun w' => Blk w' p.wb 42 (rcs p) ∧ Blk w' p.tb 71 [.slice ta ns tc, .int .i64 R.M.e]), _ := fun z => z.ok.2.cell 0 _ rfl
        have z2 : ∀ z : WIn (fun w' => Blk w' p.wb 42 (rcs p) ∧ Blk w' p.tb 71 [.slice ta ns tc, .int .i64 R.M.e]), _ := fun z => z.ok.2.cell 1 _ rfl
        go_cut [21, 22, 23] (fun av pv iv wx => ∃ (ab : Nat) (xa5 : Option Addr) (na5 pa5 : Nat) (xb5 : Option Addr) (nb5 pb5 : Nat) (qs5 : List Wq) (o5 : Nat → Nat), av = ptr ab ∧ pv = .int .u64 B.key ∧ iv = .int .i64 B.k ∧ Hid (RG w wx o5 p B.S B.S R.M R.M R.A R.X R.B (.slice sa ns sc) (.slice ta ns tc)) ∧ Hid (CVar wx o5 ab 80 B.c (.slice xa5 na5 pa5) (.slice xb5 nb5 pb5) qs5) ∧ Hid (Mv [8] W2 oA wx o5))
        case first =>
          as_aux_lemma =>
            refine wp_region_tree (C := fun w' => ∃ z : WIn (fun w' => Blk w' p.wb 42 (rcs p) ∧ Blk w' p.tb 71 [.slice ta ns tc, .int .i64 R.M.e]), w' = z.w) (.still 0 (.still 1 (.still 2 (.still 3 (.still 4 (.still 5 (.two 6 (.still 7 (.still 8 (.still 9 (.still 10 (.one 11 (.one 12 (.still 13 (.still 14 .done)))))))) 11 (.one 6 (.still 7 (.still 8 (.still 9 (.still 10 (.one 12 (.still 13 (.still 14 .done))))))))))))))) (by kernel_rfl) (by kernel_rfl) ⟨⟨W2.drew, HW5.out.blk, HW5.out.tb⟩, rfl⟩ ?_
            iterate 6 (refine tree_still rfl rfl ?_; go_big_quiet_step (exact rfl); refine wpQuiet_nil ?_)
            refine tree_two rfl rfl rfl rfl ?_ ?_
            · go_simp
              refine (HRg.out W2.drew oA (mv_drew _ _ _)).mono ?_
              rintro r w5 ⟨a5, b5, rfl, o5, qs5, hO5, hC5, hK5, hq5, hb5, hM5⟩
              obtain ⟨⟨xa5, na5, pa5, ea5⟩, xb5, nb5, pb5, eb5⟩ := slices_of hC5
              subst ea5 eb5
              have hg5 := (HW5.out.rorcS hM5.drew hO5)
              have hW5 := And.intro hg5.blk hg5.tb
              refine ⟨⟨⟨w5, hW5⟩, rfl⟩, ?_⟩
              unfold cv
              go_simp
              iterate 4 (refine tree_still rfl rfl ?_; go_big_quiet_step (exact rfl); refine wpQuiet_nil ?_)
              refine tree_one rfl rfl ?_
              go_simp
              refine ⟨⟨⟨_, hW5.1.alloc _, hW5.2.alloc _⟩, rfl⟩, ?_⟩
              go_simp
              refine tree_one rfl rfl ?_
              have He := rbgA_new HW5.out hO5 hC5 hK5 hq5 hb5 hM5
              go_simp
              refine ⟨⟨⟨_, He.1.blk, He.1.tb⟩, rfl⟩, ?_⟩
              go_simp
              iterate 2 (refine tree_still rfl rfl ?_; go_big_quiet_step (exact rfl); refine wpQuiet_nil ?_)
              refine tree_done ?_
              go_wp2
              go_meet
              exact ⟨w5.heap.size, xa5, na5, pa5, xb5, nb5, pb5, qs5, _, rfl, rfl, rfl, He.1, He.2.1, He.2.2⟩
            · go_simp
              obtain ⟨w7, hw7⟩ : ∃ w7, w7 = (W2.alloc (.cells #[.int .i64 0, .int .i64 0, .int .u64 0, .int .i64 0, .slice none 0 0, .slice none 0 0] 80)).drew := ⟨_, rfl⟩
              have HW7 : Hid (w7 = (W2.alloc (.cells zC6 80)).drew) := hw7
              rw [← hw7]
              obtain ⟨o7, ho7⟩ : ∃ o7, o7 = newTo oA W2 d := ⟨_, rfl⟩
              have HM7 : Hid (Mv [] W2 oA w7 o7) := (by rw [hw7, ho7]; exact (Mv.of_below (I := []) d (balloc (Below.refl _ _) _)).trans (mv_drew _ _ _))
              have HO7 : Hid (o7 = newTo oA W2 d) := ho7
              clear hw7 ho7
              have hg7 := HW5.out.mv HM7.out (by simp)
              refine ⟨⟨⟨w7, hg7.blk, hg7.tb⟩, rfl⟩, ?_⟩
              clear hg7
              go_simp
              refine tree_one rfl rfl ?_
              go_simp
              refine (HRg.out w7 o7 HM7.out).mono ?_
              rintro r w5 ⟨a5, b5, rfl, o5, qs5, hO5, hC5, hK5, hq5, hb5, hM5⟩
              obtain ⟨⟨xa5, na5, pa5, ea5⟩, xb5, nb5, pb5, eb5⟩ := slices_of hC5
              subst ea5 eb5
              have hg5 := ((HW5.out.mv HM7.out (by simp)).rorcS hM5 hO5)
              rw [HW7.out] at hM5
              have hW5 := And.intro hg5.blk hg5.tb
              refine ⟨⟨⟨w5, hW5⟩, rfl⟩, ?_⟩
              unfold cv
              go_simp
              iterate 4 (refine tree_still rfl rfl ?_; go_big_quiet_step (exact rfl); refine wpQuiet_nil ?_)
              refine tree_one rfl rfl ?_
              rw [HO7.out] at hM5
              have He := rbgA_put HW5.out HFr.out.1 HFr.out.2 hO5 hC5 hK5 hq5 hb5 hM5
              have Y5 := rbgA_zero HFr.out.1 hM5
              have j0 := Y5.cell 0 _ rfl; have i0 := Y5.frozen 0; have j1 := Y5.cell 1 _ rfl; have i1 := Y5.frozen 1; have j2 := Y5.cell 2 _ rfl; have i2 := Y5.frozen 2; have j3 := Y5.cell 3 _ rfl; have i3 := Y5.frozen 3; have j4 := Y5.cell 4 _ rfl; have i4 := Y5.frozen 4; have j5 := Y5.cell 5 _ rfl; have i5 := Y5.frozen 5
              clear Y5
              go_simp
              refine ⟨⟨⟨_, He.1.blk, He.1.tb⟩, rfl⟩, ?_⟩
              go_simp
              iterate 2 (refine tree_still rfl rfl ?_; go_big_quiet_step (exact rfl); refine wpQuiet_nil ?_)
              refine tree_done ?_
              go_wp2
              go_meet
              exact ⟨W2.heap.size, xa5, na5, pa5, xb5, nb5, pb5, qs5, _, rfl, rfl, rfl, He.1, He.2.1, He.2.2⟩
        obtain ⟨db, xa2, na2, pa2, xb2, nb2, pb2, qs2, oC, rfl, rfl, rfl, HW6, HV6, HM6⟩ := hcut
        obtain ⟨W3, hW3⟩ : ∃ W3, W3 = wc := ⟨_, rfl⟩
        subst hW3
        have HV5' : Hid (CVar W3 oC cb 75 B.c (.slice xa1 na1 pa1) (.slice xb1 nb1 pb1) qs1) := (show CVar _ _ _ _ _ _ _ _ from HV5.out.mv HM6.out (by decide))
        clear ne9 z0 z1 z2 HRg HFr HW5 HM6 HV5
        have hBk := HBk.out
        have hk0 : (B.k != 0) = false := by rw [hBk]; rfl
        clear hBk
        have q5 := HW6.out.sb
        have q6 := HV5'.out.var
        have s0' := q5.cell 0 _ rfl; have s1' := q5.cell 1 _ rfl
        have c0 := q6.cell 0 _ rfl; have c1 := q6.cell 1 _ rfl; have c2 := q6.cell 2 _ rfl; have c3 := q6.cell 3 _ rfl; have c4 := q6.cell 4 _ rfl; have c5 := q6.cell 5 _ rfl
        clear q5 q6
        obtain ⟨m1, hm1⟩ : ∃ m1, m1 = M1.l.length := ⟨_, rfl⟩
        have HM1 : Hid (m1 = M1.l.length) := hm1
        have HAp : Hid (Calls Tryz.prog 28 #[.agg #[.slice sa ns sc, .int .i64 R.M.e], .agg #[.int .i64 B.c.k, .int .i64 B.c.w, .int .u64 B.c.p, .int .i64 B.c.l, .slice xa1 na1 pa1, .slice xb1 nb1 pb1]] W3 fun r w'' => ∃ z y', r = .returned (.tuple #[.agg #[.slice z m1 y', .int .i64 M1.e], .int .i64 0]) ∧ RowF mc w'' (.slice z m1 y') M1.l ∧ (∀ j, (Value.slice z m1 y').ownBlock = some j → W3.heap.size ≤ j ∨ (Value.slice sa ns sc).ownBlock = some j) ∧ Below W3.heap.size W3 w'') := (by
          have h1 := apply13f (S := R.M) HW6.out.s.1 (by have := HMo.out.2.1; omega) HMo.out.1.e HV5'.out.cg
          rw [HA.out] at h1
          refine h1.mono ?_
          rintro r w'' ⟨v, rfl, hr, hn, hb'⟩
          obtain ⟨z, y', e⟩ := hr.len
          subst e
          refine ⟨z, y', ?_, ?_, ?_, hb'⟩
          · rw [HM1.out]; rfl
          · rw [HM1.out]; exact hr
          · rw [HM1.out]; exact fun j hj => .inl (hn j hj))
        clear hm1
        go_upto_region 25 with (go_at_call 28; go_must (refine HAp.out.mono ?_; rintro r w7 ⟨z7, y7, rfl, hr7, hn7, hb7⟩))
        have hA7 := apF_new (W := W3) (lv := .slice sa ns sc) (S := M1) 67 hr7 hn7 hb7
        obtain ⟨W4, hW4⟩ : ∃ W4, W4 = w7.alloc (.cells #[.slice z7 m1 y7, .int .i64 M1.e] 67) := ⟨_, rfl⟩
        obtain ⟨nb, hnb⟩ : ∃ nb, nb = w7.heap.size := ⟨_, rfl⟩
        rw [← hW4, ← hnb] at hA7
        rw [← hW4, ← hnb]
        have HA7 : Hid (ApF W3 W4 nb 67 (.slice sa ns sc) (.slice z7 m1 y7) M1) := hA7
        have HW7 : Hid (RG w W4 (newTo oC W3 0) p B.S B.S R.M R.M R.A R.X R.B (.slice sa ns sc) (.slice ta ns tc)) := (show RG _ _ _ _ _ _ _ _ _ _ _ _ _ from HW6.out.below hA7.bel 0)
        have HV7 : Hid (CVar W4 (newTo oC W3 0) cb 75 B.c (.slice xa1 na1 pa1) (.slice xb1 nb1 pb1) qs1) := (show CVar _ _ _ _ _ _ _ _ from HV5'.out.mv (Mv.of_below (I := []) 0 hA7.bel) (by simp))
        have HU7 : Hid (CVar W4 (newTo oC W3 0) db 80 B.c (.slice xa2 na2 pa2) (.slice xb2 nb2 pb2) qs2) := (show CVar _ _ _ _ _ _ _ _ from HV6.out.mv (Mv.of_below (I := []) 0 hA7.bel) (by simp))
        have HK7 : Hid (KpF mc W4 (newTo oC W3 0) (.slice z7 m1 y7) M1.l) := (show KpF _ _ _ _ _ from hA7.kp HW6.out.s HMo.out.2.2)
        have HN7 : Hid (newTo oC W3 0 nb = 0) := newTo_new hA7.le
        generalize newTo oC W3 0 = oD at *
        clear hA7 hW4 hnb hr7 hn7 hb7 HAp HW6 HV6 HV5' s0' s1' c0 c1 c2 c3 c4 c5
        have q5 := HW7.out.tb
        have q6 := HU7.out.var
        have s0' := q5.cell 0 _ rfl; have s1' := q5.cell 1 _ rfl
        have c0 := q6.cell 0 _ rfl; have c1 := q6.cell 1 _ rfl; have c2 := q6.cell 2 _ rfl; have c3 := q6.cell 3 _ rfl; have c4 := q6.cell 4 _ rfl; have c5 := q6.cell 5 _ rfl
        clear q5 q6
        have HAq : Hid (Calls Tryz.prog 29 #[.agg #[.slice ta ns tc, .int .i64 R.M.e], .agg #[.int .i64 B.c.k, .int .i64 B.c.w, .int .u64 B.c.p, .int .i64 B.c.l, .slice xa2 na2 pa2, .slice xb2 nb2 pb2]] W4 fun r w'' => ∃ z y', r = .returned (.tuple #[.agg #[.slice z m1 y', .int .i64 M1.e], .int .i64 0]) ∧ RowF mc w'' (.slice z m1 y') M1.l ∧ (∀ j, (Value.slice z m1 y').ownBlock = some j → W4.heap.size ≤ j ∨ (Value.slice ta ns tc).ownBlock = some j) ∧ Below W4.heap.size W4 w'') := (by
          have h1 := rapply14f (S := R.M) HW7.out.t.1 (by have := HMo.out.2.1; omega) HMo.out.1 HU7.out.cg
          rw [HA.out] at h1
          refine h1.mono ?_
          rintro r w'' ⟨v, rfl, hr, hn, hb'⟩
          obtain ⟨z, y', e⟩ := hr.len
          subst e
          refine ⟨z, y', ?_, ?_, ?_, hb'⟩
          · rw [HM1.out]; rfl
          · rw [HM1.out]; exact hr
          · rw [HM1.out]; exact hn)
        go_upto_region 26 with (go_at_call 29; go_must (refine HAq.out.mono ?_; rintro r w7 ⟨z8, y8, rfl, hr7, hn7, hb7⟩))
        have hA8 := apF_new (W := W4) (lv := .slice ta ns tc) (S := M1) 71 hr7 hn7 hb7
        obtain ⟨W5, hW5⟩ : ∃ W5, W5 = w7.alloc (.cells #[.slice z8 m1 y8, .int .i64 M1.e] 71) := ⟨_, rfl⟩
        obtain ⟨nc, hnc⟩ : ∃ nc, nc = w7.heap.size := ⟨_, rfl⟩
        rw [← hW5, ← hnc] at hA8
        rw [← hW5, ← hnc]
        have HA8 : Hid (ApF W4 W5 nc 71 (.slice ta ns tc) (.slice z8 m1 y8) M1) := hA8
        have m8 : Mv [] W4 oD W5 (newTo oD W4 0) := Mv.of_below (I := []) 0 hA8.bel
        have HW8 : Hid (RG w W5 (newTo oD W4 0) p B.S B.S R.M R.M R.A R.X R.B (.slice sa ns sc) (.slice ta ns tc)) := (show RG _ _ _ _ _ _ _ _ _ _ _ _ _ from HW7.out.mv m8 (by simp))
        have HV8 : Hid (CVar W5 (newTo oD W4 0) cb 75 B.c (.slice xa1 na1 pa1) (.slice xb1 nb1 pb1) qs1) := (show CVar _ _ _ _ _ _ _ _ from HV7.out.mv m8 (by simp))
        have HU8 : Hid (CVar W5 (newTo oD W4 0) db 80 B.c (.slice xa2 na2 pa2) (.slice xb2 nb2 pb2) qs2) := (show CVar _ _ _ _ _ _ _ _ from HU7.out.mv m8 (by simp))
        have HK8 : Hid (KpF mc W5 (newTo oD W4 0) (.slice z8 m1 y8) M1.l) := (show KpF _ _ _ _ _ from hA8.kp HW7.out.t HMo.out.2.2)
        have HK7' : Hid (KpF mc W5 (newTo oD W4 0) (.slice z7 m1 y7) M1.l) := (show KpF _ _ _ _ _ from HK7.out.mv m8 (by simp))
        have HN8 : Hid (newTo oD W4 0 nb = 0 ∧ newTo oD W4 0 nc = 0) := ⟨by rw [newTo_old HA7.out.var.lt]; exact HN7.out, newTo_new hA8.le⟩
        have HY7 : Hid (Blk W5 nb 67 [.slice z7 m1 y7, .int .i64 M1.e]) := (show Blk _ _ _ _ from HA7.out.var.block (m8.block _ HA7.out.var.lt (by simp)))
        generalize newTo oD W4 0 = oE at *
        clear hA8 hW5 hnc hr7 hn7 hb7 HAq HW7 HV7 HU7 HK7 HA7 HN7 m8 s0' s1' c0 c1 c2 c3 c4 c5
        go_upto_region 28 with fail
        have HD : Hid (RG w W5.drew oE p B.S B.S R.M R.M R.A R.X R.B (.slice sa ns sc) (.slice ta ns tc) ∧ CVar W5.drew oE cb 75 B.c (.slice xa1 na1 pa1) (.slice xb1 nb1 pb1) qs1 ∧ CVar W5.drew oE db 80 B.c (.slice xa2 na2 pa2) (.slice xb2 nb2 pb2) qs2 ∧ KpF mc W5.drew oE (.slice z7 m1 y7) M1.l ∧ KpF mc W5.drew oE (.slice z8 m1 y8) M1.l ∧ Blk W5.drew nb 67 [.slice z7 m1 y7, .int .i64 M1.e] ∧ Blk W5.drew nc 71 [.slice z8 m1 y8, .int .i64 M1.e]) := ⟨HW8.out.mv (mv_drew [] _ _) (by simp), HV8.out.mv (mv_drew [] _ _) (by simp), HU8.out.mv (mv_drew [] _ _) (by simp), HK7'.out.mv (mv_drew [] _ _) (by simp), HK8.out.mv (mv_drew [] _ _) (by simp), HY7.out, HA8.out.var⟩
        have ne9 : Nonempty (WIn (fun w' => Blk w' nb 67 [.slice z7 m1 y7, .int .i64 M1.e] ∧ Blk w' nc 71 [.slice z8 m1 y8, .int .i64 M1.e])) := ⟨⟨W5.drew, HD.out.2.2.2.2.2.1, HD.out.2.2.2.2.2.2⟩⟩
        have z0 : ∀ z : WIn (fun w' => Blk w' nb 67 [.slice z7 m1 y7, .int .i64 M1.e] ∧ Blk w' nc 71 [.slice z8 m1 y8, .int .i64 M1.e]), _ := fun z => z.ok.1.cell 0 _ rfl
        have z1 : ∀ z : WIn (fun w' => Blk w' nb 67 [.slice z7 m1 y7, .int .i64 M1.e] ∧ Blk w' nc 71 [.slice z8 m1 y8, .int .i64 M1.e]), _ := fun z => z.ok.1.cell 1 _ rfl
        have z2 : ∀ z : WIn (fun w' => Blk w' nb 67 [.slice z7 m1 y7, .int .i64 M1.e] ∧ Blk w' nc 71 [.slice z8 m1 y8, .int .i64 M1.e]), _ := fun z => z.ok.2.cell 0 _ rfl
        have z3 : ∀ z : WIn (fun w' => Blk w' nb 67 [.slice z7 m1 y7, .int .i64 M1.e] ∧ Blk w' nc 71 [.slice z8 m1 y8, .int .i64 M1.e]), _ := fun z => z.ok.2.cell 1 _ rfl
        clear HW8 HV8 HU8 HK7' HK8 HY7 HA8
        refine wp_region_ord (C := fun w' => ∃ z : WIn (fun w' => Blk w' nb 67 [.slice z7 m1 y7, .int .i64 M1.e] ∧ Blk w' nc 71 [.slice z8 m1 y8, .int .i64 M1.e]), w' = z.w) [(false, 0), (false, 1), (true, 2), (true, 3)] (by kernel_rfl) (by kernel_rfl) ⟨⟨W5.drew, HD.out.2.2.2.2.2.1, HD.out.2.2.2.2.2.2⟩, rfl⟩ ?_
        generalize W5.drew = wd at *
        iterate 2 (refine ord_still rfl rfl ?_; go_big_quiet_step (exact rfl); refine wpQuiet_nil ?_)
        have q5 := HD.out.1.sb
        have g0 := q5.cell 0 _ rfl; have g1 := q5.cell 1 _ rfl; have i0 := q5.frozen 0; have i1 := q5.frozen 1
        clear q5
        refine ord_mem rfl rfl ?_
        go_simp
        obtain ⟨hS1, hS2⟩ := HD.out.1.setS (M' := M1) (v := .slice z7 m1 y7) HD.out.2.2.2.1
        unfold putS at hS1 hS2
        have HE : Hid (RG w ((wd.setCell ⟨p.sb, 0, none⟩ (.slice z7 m1 y7)).setCell ⟨p.sb, 1, none⟩ (.int .i64 M1.e)) (newTo oE wd 0) p B.S B.S M1 R.M R.A R.X R.B (.slice z7 m1 y7) (.slice ta ns tc) ∧ CVar ((wd.setCell ⟨p.sb, 0, none⟩ (.slice z7 m1 y7)).setCell ⟨p.sb, 1, none⟩ (.int .i64 M1.e)) (newTo oE wd 0) cb 75 B.c (.slice xa1 na1 pa1) (.slice xb1 nb1 pb1) qs1 ∧ CVar ((wd.setCell ⟨p.sb, 0, none⟩ (.slice z7 m1 y7)).setCell ⟨p.sb, 1, none⟩ (.int .i64 M1.e)) (newTo oE wd 0) db 80 B.c (.slice xa2 na2 pa2) (.slice xb2 nb2 pb2) qs2 ∧ KpF mc ((wd.setCell ⟨p.sb, 0, none⟩ (.slice z7 m1 y7)).setCell ⟨p.sb, 1, none⟩ (.int .i64 M1.e)) (newTo oE wd 0) (.slice z8 m1 y8) M1.l ∧ Blk ((wd.setCell ⟨p.sb, 0, none⟩ (.slice z7 m1 y7)).setCell ⟨p.sb, 1, none⟩ (.int .i64 M1.e)) nb 67 [.slice z7 m1 y7, .int .i64 M1.e] ∧ Blk ((wd.setCell ⟨p.sb, 0, none⟩ (.slice z7 m1 y7)).setCell ⟨p.sb, 1, none⟩ (.int .i64 M1.e)) nc 71 [.slice z8 m1 y8, .int .i64 M1.e]) := ⟨hS1, HD.out.2.1.mv hS2 (by decide), HD.out.2.2.1.mv hS2 (by decide), HD.out.2.2.2.2.1.mv hS2 (by decide), HD.out.2.2.2.2.2.1.block (hS2.block _ HD.out.2.2.2.2.2.1.lt (by rw [HN8.out.1]; decide)), HD.out.2.2.2.2.2.2.block (hS2.block _ HD.out.2.2.2.2.2.2.lt (by rw [HN8.out.2]; decide))⟩
        have HN9 : Hid (newTo oE wd 0 nb = 0 ∧ newTo oE wd 0 nc = 0) := ⟨by rw [newTo_old HD.out.2.2.2.2.2.1.lt]; exact HN8.out.1, by rw [newTo_old HD.out.2.2.2.2.2.2.lt]; exact HN8.out.2⟩
        clear hS1 hS2 g0 g1 i0 i1 HD HN8
        generalize ((wd.setCell ⟨p.sb, 0, none⟩ (.slice z7 m1 y7)).setCell ⟨p.sb, 1, none⟩ (.int .i64 M1.e)) = we at *
        generalize newTo oE wd 0 = oF at *
        refine ⟨⟨⟨we, HE.out.2.2.2.2.1, HE.out.2.2.2.2.2⟩, rfl⟩, ?_⟩
        go_simp
        have q5 := HE.out.1.tb
        have g0 := q5.cell 0 _ rfl; have g1 := q5.cell 1 _ rfl; have i0 := q5.frozen 0; have i1 := q5.frozen 1
        clear q5
        refine ord_mem rfl rfl ?_
        go_simp
        obtain ⟨hS1, hS2⟩ := HE.out.1.setT (K' := M1) (v := .slice z8 m1 y8) HE.out.2.2.2.1
        unfold putS at hS1 hS2
        have HF : Hid (RG w ((we.setCell ⟨p.tb, 0, none⟩ (.slice z8 m1 y8)).setCell ⟨p.tb, 1, none⟩ (.int .i64 M1.e)) (newTo oF we 0) p B.S B.S M1 M1 R.A R.X R.B (.slice z7 m1 y7) (.slice z8 m1 y8) ∧ CVar ((we.setCell ⟨p.tb, 0, none⟩ (.slice z8 m1 y8)).setCell ⟨p.tb, 1, none⟩ (.int .i64 M1.e)) (newTo oF we 0) cb 75 B.c (.slice xa1 na1 pa1) (.slice xb1 nb1 pb1) qs1 ∧ CVar ((we.setCell ⟨p.tb, 0, none⟩ (.slice z8 m1 y8)).setCell ⟨p.tb, 1, none⟩ (.int .i64 M1.e)) (newTo oF we 0) db 80 B.c (.slice xa2 na2 pa2) (.slice xb2 nb2 pb2) qs2 ∧ Blk ((we.setCell ⟨p.tb, 0, none⟩ (.slice z8 m1 y8)).setCell ⟨p.tb, 1, none⟩ (.int .i64 M1.e)) nb 67 [.slice z7 m1 y7, .int .i64 M1.e] ∧ Blk ((we.setCell ⟨p.tb, 0, none⟩ (.slice z8 m1 y8)).setCell ⟨p.tb, 1, none⟩ (.int .i64 M1.e)) nc 71 [.slice z8 m1 y8, .int .i64 M1.e]) := ⟨hS1, HE.out.2.1.mv hS2 (by decide), HE.out.2.2.1.mv hS2 (by decide), HE.out.2.2.2.2.1.block (hS2.block _ HE.out.2.2.2.2.1.lt (by rw [HN9.out.1]; decide)), HE.out.2.2.2.2.2.block (hS2.block _ HE.out.2.2.2.2.2.lt (by rw [HN9.out.2]; decide))⟩
        clear hS1 hS2 g0 g1 i0 i1 HE HN9
        generalize ((we.setCell ⟨p.tb, 0, none⟩ (.slice z8 m1 y8)).setCell ⟨p.tb, 1, none⟩ (.int .i64 M1.e)) = wf at *
        generalize newTo oF we 0 = oG at *
        refine ⟨⟨⟨wf, HF.out.2.2.2.1, HF.out.2.2.2.2⟩, rfl⟩, ?_⟩
        go_simp
        refine ord_end ?_
        have HWa : Hid (RG w wf oG p B.S B.S M1 M1 R.A R.X R.B (.slice z7 m1 y7) (.slice z8 m1 y8)) := HF.out.1
        have HVa : Hid (CVar wf oG cb 75 B.c (.slice xa1 na1 pa1) (.slice xb1 nb1 pb1) qs1) := HF.out.2.1
        have HUa : Hid (CVar wf oG db 80 B.c (.slice xa2 na2 pa2) (.slice xb2 nb2 pb2) qs2) := HF.out.2.2.1
        clear HF z0 z1 z2 z3 ne9
        go_upto_region 29 with fail
        have HD29 : Hid (RG w wf.drew oG p B.S B.S M1 M1 R.A R.X R.B (.slice z7 m1 y7) (.slice z8 m1 y8) ∧ CVar wf.drew oG cb 75 B.c (.slice xa1 na1 pa1) (.slice xb1 nb1 pb1) qs1 ∧ CVar wf.drew oG db 80 B.c (.slice xa2 na2 pa2) (.slice xb2 nb2 pb2) qs2) := ⟨HWa.out.mv (mv_drew [] _ _) (by simp), HVa.out.mv (mv_drew [] _ _) (by simp), HUa.out.mv (mv_drew [] _ _) (by simp)⟩
        have ne9 : Nonempty (WIn (fun w' => Blk w' p.wb 42 (rcs p) ∧ Blk w' cb 75 [.int .i64 B.c.k, .int .i64 B.c.w, .int .u64 B.c.p, .int .i64 B.c.l, .slice xa1 na1 pa1, .slice xb1 nb1 pb1])) := ⟨⟨wf.drew, HD29.out.1.blk, HD29.out.2.1.var⟩⟩
        have y0 : ∀ z : WIn (fun w' => Blk w' p.wb 42 (rcs p) ∧ Blk w' cb 75 [.int .i64 B.c.k, .int .i64 B.c.w, .int .u64 B.c.p, .int .i64 B.c.l, .slice xa1 na1 pa1, .slice xb1 nb1 pb1]), _ := fun z => z.ok.1.cell 2 _ rfl
        have v0 : ∀ z : WIn (fun w' => Blk w' p.wb 42 (rcs p) ∧ Blk w' cb 75 [.int .i64 B.c.k, .int .i64 B.c.w, .int .u64 B.c.p, .int .i64 B.c.l, .slice xa1 na1 pa1, .slice xb1 nb1 pb1]), _ := fun z => z.ok.2.cell 0 _ rfl
        have v1 : ∀ z : WIn (fun w' => Blk w' p.wb 42 (rcs p) ∧ Blk w' cb 75 [.int .i64 B.c.k, .int .i64 B.c.w, .int .u64 B.c.p, .int .i64 B.c.l, .slice xa1 na1 pa1, .slice xb1 nb1 pb1]), _ := fun z => z.ok.2.cell 1 _ rfl
        have v2 : ∀ z : WIn (fun w' => Blk w' p.wb 42 (rcs p) ∧ Blk w' cb 75 [.int .i64 B.c.k, .int .i64 B.c.w, .int .u64 B.c.p, .int .i64 B.c.l, .slice xa1 na1 pa1, .slice xb1 nb1 pb1]), _ := fun z => z.ok.2.cell 2 _ rfl
        have v3 : ∀ z : WIn (fun w' => Blk w' p.wb 42 (rcs p) ∧ Blk w' cb 75 [.int .i64 B.c.k, .int .i64 B.c.w, .int .u64 B.c.p, .int .i64 B.c.l, .slice xa1 na1 pa1, .slice xb1 nb1 pb1]), _ := fun z => z.ok.2.cell 3 _ rfl
        have v4 : ∀ z : WIn (fun w' => Blk w' p.wb 42 (rcs p) ∧ Blk w' cb 75 [.int .i64 B.c.k, .int .i64 B.c.w, .int .u64 B.c.p, .int .i64 B.c.l, .slice xa1 na1 pa1, .slice xb1 nb1 pb1]), _ := fun z => z.ok.2.cell 4 _ rfl
        have v5 : ∀ z : WIn (fun w' => Blk w' p.wb 42 (rcs p) ∧ Blk w' cb 75 [.int .i64 B.c.k, .int .i64 B.c.w, .int .u64 B.c.p, .int .i64 B.c.l, .slice xa1 na1 pa1, .slice xb1 nb1 pb1]), _ := fun z => z.ok.2.cell 5 _ rfl
        have HLc : Hid (Calls Tryz.prog 30 #[ptr p.ra, .agg #[.int .i64 B.c.k, .int .i64 B.c.w, .int .u64 B.c.p, .int .i64 B.c.l, .slice xa1 na1 pa1, .slice xb1 nb1 pb1]] wf.drew fun r w'' => ∃ n, r = .returned (.int .i64 n) ∧ ∃ o'', RG w w'' o'' p B.S B.S M1 M1 A1 R.X R.B (.slice z7 m1 y7) (.slice z8 m1 y8) ∧ CVar w'' o'' cb 75 B.c (.slice xa1 na1 pa1) (.slice xb1 nb1 pb1) qs1 ∧ CVar w'' o'' db 80 B.c (.slice xa2 na2 pa2) (.slice xb2 nb2 pb2) qs2) := (by
          have h1 := learn20 HD29.out.1.a HD29.out.1.orc HBs.out.1 (by decide) (by decide) HD29.out.2.1.cg HD29.out.2.1.kb (by have := HBs.out.2.1; omega)
          rw [← HLn.out.1] at h1
          refine h1.mono ?_
          rintro r w'' ⟨rfl, o'', h2, h3⟩
          exact ⟨_, rfl, o'', HD29.out.1.ringA h3 h2, HD29.out.2.1.mv h3 (by decide), HD29.out.2.2.mv h3 (by decide)⟩)
        clear HWa HVa HUa
        refine wp_region_ord (C := fun w' => ∃ z : WIn (fun w' => Blk w' p.wb 42 (rcs p) ∧ Blk w' cb 75 [.int .i64 B.c.k, .int .i64 B.c.w, .int .u64 B.c.p, .int .i64 B.c.l, .slice xa1 na1 pa1, .slice xb1 nb1 pb1]), w' = z.w) [(false, 0), (false, 1), (false, 2), (false, 3), (false, 4), (true, 5)] (by kernel_rfl) (by kernel_rfl) ⟨⟨wf.drew, HD29.out.1.blk, HD29.out.2.1.var⟩, rfl⟩ ?_
        iterate 5 (refine ord_still rfl rfl ?_; go_big_quiet_step (exact rfl); refine wpQuiet_nil ?_)
        refine ord_mem rfl rfl ?_
        go_simp
        refine HLc.out.mono ?_
        rintro r w29 ⟨n29, rfl, oH29, hw, hv, hu⟩
        refine ⟨⟨⟨w29, hw.blk, hv.var⟩, rfl⟩, ?_⟩
        refine ord_end ?_
        have HW29 : Hid (RG w w29 oH29 p B.S B.S M1 M1 A1 R.X R.B (.slice z7 m1 y7) (.slice z8 m1 y8)) := hw
        have HV29 : Hid (CVar w29 oH29 cb 75 B.c (.slice xa1 na1 pa1) (.slice xb1 nb1 pb1) qs1) := hv
        have HU29 : Hid (CVar w29 oH29 db 80 B.c (.slice xa2 na2 pa2) (.slice xb2 nb2 pb2) qs2) := hu
        clear hw hv hu HD29 HLc ne9 y0 v0 v1 v2 v3 v4 v5
        go_upto_region 30 with fail
        have HD30 : Hid (RG w w29.drew oH29 p B.S B.S M1 M1 A1 R.X R.B (.slice z7 m1 y7) (.slice z8 m1 y8) ∧ CVar w29.drew oH29 cb 75 B.c (.slice xa1 na1 pa1) (.slice xb1 nb1 pb1) qs1 ∧ CVar w29.drew oH29 db 80 B.c (.slice xa2 na2 pa2) (.slice xb2 nb2 pb2) qs2) := ⟨HW29.out.mv (mv_drew [] _ _) (by simp), HV29.out.mv (mv_drew [] _ _) (by simp), HU29.out.mv (mv_drew [] _ _) (by simp)⟩
        have ne9 : Nonempty (WIn (fun w' => Blk w' p.wb 42 (rcs p) ∧ Blk w' cb 75 [.int .i64 B.c.k, .int .i64 B.c.w, .int .u64 B.c.p, .int .i64 B.c.l, .slice xa1 na1 pa1, .slice xb1 nb1 pb1])) := ⟨⟨w29.drew, HD30.out.1.blk, HD30.out.2.1.var⟩⟩
        have y0 : ∀ z : WIn (fun w' => Blk w' p.wb 42 (rcs p) ∧ Blk w' cb 75 [.int .i64 B.c.k, .int .i64 B.c.w, .int .u64 B.c.p, .int .i64 B.c.l, .slice xa1 na1 pa1, .slice xb1 nb1 pb1]), _ := fun z => z.ok.1.cell 3 _ rfl
        have v0 : ∀ z : WIn (fun w' => Blk w' p.wb 42 (rcs p) ∧ Blk w' cb 75 [.int .i64 B.c.k, .int .i64 B.c.w, .int .u64 B.c.p, .int .i64 B.c.l, .slice xa1 na1 pa1, .slice xb1 nb1 pb1]), _ := fun z => z.ok.2.cell 0 _ rfl
        have v1 : ∀ z : WIn (fun w' => Blk w' p.wb 42 (rcs p) ∧ Blk w' cb 75 [.int .i64 B.c.k, .int .i64 B.c.w, .int .u64 B.c.p, .int .i64 B.c.l, .slice xa1 na1 pa1, .slice xb1 nb1 pb1]), _ := fun z => z.ok.2.cell 1 _ rfl
        have v2 : ∀ z : WIn (fun w' => Blk w' p.wb 42 (rcs p) ∧ Blk w' cb 75 [.int .i64 B.c.k, .int .i64 B.c.w, .int .u64 B.c.p, .int .i64 B.c.l, .slice xa1 na1 pa1, .slice xb1 nb1 pb1]), _ := fun z => z.ok.2.cell 2 _ rfl
        have v3 : ∀ z : WIn (fun w' => Blk w' p.wb 42 (rcs p) ∧ Blk w' cb 75 [.int .i64 B.c.k, .int .i64 B.c.w, .int .u64 B.c.p, .int .i64 B.c.l, .slice xa1 na1 pa1, .slice xb1 nb1 pb1]), _ := fun z => z.ok.2.cell 3 _ rfl
        have v4 : ∀ z : WIn (fun w' => Blk w' p.wb 42 (rcs p) ∧ Blk w' cb 75 [.int .i64 B.c.k, .int .i64 B.c.w, .int .u64 B.c.p, .int .i64 B.c.l, .slice xa1 na1 pa1, .slice xb1 nb1 pb1]), _ := fun z => z.ok.2.cell 4 _ rfl
        have v5 : ∀ z : WIn (fun w' => Blk w' p.wb 42 (rcs p) ∧ Blk w' cb 75 [.int .i64 B.c.k, .int .i64 B.c.w, .int .u64 B.c.p, .int .i64 B.c.l, .slice xa1 na1 pa1, .slice xb1 nb1 pb1]), _ := fun z => z.ok.2.cell 5 _ rfl
        have HLc : Hid (Calls Tryz.prog 30 #[ptr p.rx, .agg #[.int .i64 B.c.k, .int .i64 B.c.w, .int .u64 B.c.p, .int .i64 B.c.l, .slice xa1 na1 pa1, .slice xb1 nb1 pb1]] w29.drew fun r w'' => ∃ n, r = .returned (.int .i64 n) ∧ ∃ o'', RG w w'' o'' p B.S B.S M1 M1 A1 X1 R.B (.slice z7 m1 y7) (.slice z8 m1 y8) ∧ CVar w'' o'' cb 75 B.c (.slice xa1 na1 pa1) (.slice xb1 nb1 pb1) qs1 ∧ CVar w'' o'' db 80 B.c (.slice xa2 na2 pa2) (.slice xb2 nb2 pb2) qs2) := (by
          have h1 := learn20 HD30.out.1.x HD30.out.1.orc HBs.out.1 (by decide) (by decide) HD30.out.2.1.cg HD30.out.2.1.kb (by have := HBs.out.2.1; omega)
          rw [← HLn.out.2.1] at h1
          refine h1.mono ?_
          rintro r w'' ⟨rfl, o'', h2, h3⟩
          exact ⟨_, rfl, o'', HD30.out.1.ringX h3 h2, HD30.out.2.1.mv h3 (by decide), HD30.out.2.2.mv h3 (by decide)⟩)
        clear HW29 HV29 HU29
        refine wp_region_ord (C := fun w' => ∃ z : WIn (fun w' => Blk w' p.wb 42 (rcs p) ∧ Blk w' cb 75 [.int .i64 B.c.k, .int .i64 B.c.w, .int .u64 B.c.p, .int .i64 B.c.l, .slice xa1 na1 pa1, .slice xb1 nb1 pb1]), w' = z.w) [(false, 0), (false, 1), (false, 2), (false, 3), (false, 4), (true, 5)] (by kernel_rfl) (by kernel_rfl) ⟨⟨w29.drew, HD30.out.1.blk, HD30.out.2.1.var⟩, rfl⟩ ?_
        iterate 5 (refine ord_still rfl rfl ?_; go_big_quiet_step (exact rfl); refine wpQuiet_nil ?_)
        refine ord_mem rfl rfl ?_
        go_simp
        refine HLc.out.mono ?_
        rintro r w30 ⟨n30, rfl, oH30, hw, hv, hu⟩
        refine ⟨⟨⟨w30, hw.blk, hv.var⟩, rfl⟩, ?_⟩
        refine ord_end ?_
        have HW30 : Hid (RG w w30 oH30 p B.S B.S M1 M1 A1 X1 R.B (.slice z7 m1 y7) (.slice z8 m1 y8)) := hw
        have HV30 : Hid (CVar w30 oH30 cb 75 B.c (.slice xa1 na1 pa1) (.slice xb1 nb1 pb1) qs1) := hv
        have HU30 : Hid (CVar w30 oH30 db 80 B.c (.slice xa2 na2 pa2) (.slice xb2 nb2 pb2) qs2) := hu
        clear hw hv hu HD30 HLc ne9 y0 v0 v1 v2 v3 v4 v5
        go_upto_region 31 with fail
        have HD31 : Hid (RG w w30.drew oH30 p B.S B.S M1 M1 A1 X1 R.B (.slice z7 m1 y7) (.slice z8 m1 y8) ∧ CVar w30.drew oH30 cb 75 B.c (.slice xa1 na1 pa1) (.slice xb1 nb1 pb1) qs1 ∧ CVar w30.drew oH30 db 80 B.c (.slice xa2 na2 pa2) (.slice xb2 nb2 pb2) qs2) := ⟨HW30.out.mv (mv_drew [] _ _) (by simp), HV30.out.mv (mv_drew [] _ _) (by simp), HU30.out.mv (mv_drew [] _ _) (by simp)⟩
        have ne9 : Nonempty (WIn (fun w' => Blk w' p.wb 42 (rcs p) ∧ Blk w' db 80 [.int .i64 B.c.k, .int .i64 B.c.w, .int .u64 B.c.p, .int .i64 B.c.l, .slice xa2 na2 pa2, .slice xb2 nb2 pb2])) := ⟨⟨w30.drew, HD31.out.1.blk, HD31.out.2.2.var⟩⟩
        have y0 : ∀ z : WIn (fun w' => Blk w' p.wb 42 (rcs p) ∧ Blk w' db 80 [.int .i64 B.c.k, .int .i64 B.c.w, .int .u64 B.c.p, .int .i64 B.c.l, .slice xa2 na2 pa2, .slice xb2 nb2 pb2]), _ := fun z => z.ok.1.cell 4 _ rfl
        have y1 : ∀ z : WIn (fun w' => Blk w' p.wb 42 (rcs p) ∧ Blk w' db 80 [.int .i64 B.c.k, .int .i64 B.c.w, .int .u64 B.c.p, .int .i64 B.c.l, .slice xa2 na2 pa2, .slice xb2 nb2 pb2]), _ := fun z => z.ok.1.cell 1 _ rfl
        have v0 : ∀ z : WIn (fun w' => Blk w' p.wb 42 (rcs p) ∧ Blk w' db 80 [.int .i64 B.c.k, .int .i64 B.c.w, .int .u64 B.c.p, .int .i64 B.c.l, .slice xa2 na2 pa2, .slice xb2 nb2 pb2]), _ := fun z => z.ok.2.cell 0 _ rfl
        have v1 : ∀ z : WIn (fun w' => Blk w' p.wb 42 (rcs p) ∧ Blk w' db 80 [.int .i64 B.c.k, .int .i64 B.c.w, .int .u64 B.c.p, .int .i64 B.c.l, .slice xa2 na2 pa2, .slice xb2 nb2 pb2]), _ := fun z => z.ok.2.cell 1 _ rfl
        have v2 : ∀ z : WIn (fun w' => Blk w' p.wb 42 (rcs p) ∧ Blk w' db 80 [.int .i64 B.c.k, .int .i64 B.c.w, .int .u64 B.c.p, .int .i64 B.c.l, .slice xa2 na2 pa2, .slice xb2 nb2 pb2]), _ := fun z => z.ok.2.cell 2 _ rfl
        have v3 : ∀ z : WIn (fun w' => Blk w' p.wb 42 (rcs p) ∧ Blk w' db 80 [.int .i64 B.c.k, .int .i64 B.c.w, .int .u64 B.c.p, .int .i64 B.c.l, .slice xa2 na2 pa2, .slice xb2 nb2 pb2]), _ := fun z => z.ok.2.cell 3 _ rfl
        have v4 : ∀ z : WIn (fun w' => Blk w' p.wb 42 (rcs p) ∧ Blk w' db 80 [.int .i64 B.c.k, .int .i64 B.c.w, .int .u64 B.c.p, .int .i64 B.c.l, .slice xa2 na2 pa2, .slice xb2 nb2 pb2]), _ := fun z => z.ok.2.cell 4 _ rfl
        have v5 : ∀ z : WIn (fun w' => Blk w' p.wb 42 (rcs p) ∧ Blk w' db 80 [.int .i64 B.c.k, .int .i64 B.c.w, .int .u64 B.c.p, .int .i64 B.c.l, .slice xa2 na2 pa2, .slice xb2 nb2 pb2]), _ := fun z => z.ok.2.cell 5 _ rfl
        have HLc : Hid (Calls Tryz.prog 31 #[ptr p.rb, ptr p.rr, .agg #[.int .i64 B.c.k, .int .i64 B.c.w, .int .u64 B.c.p, .int .i64 B.c.l, .slice xa2 na2 pa2, .slice xb2 nb2 pb2]] w30.drew fun r w'' => ∃ n, r = .returned (.int .i64 n) ∧ ∃ o'', RG w w'' o'' p B.S B.S M1 M1 A1 X1 B1 (.slice z7 m1 y7) (.slice z8 m1 y8) ∧ CVar w'' o'' cb 75 B.c (.slice xa1 na1 pa1) (.slice xb1 nb1 pb1) qs1 ∧ CVar w'' o'' db 80 B.c (.slice xa2 na2 pa2) (.slice xb2 nb2 pb2) qs2) := (by
          have h1 := rlearn32 HD31.out.1.b HD31.out.1.rorc HBs.out.1 (by decide) (by decide) HD31.out.2.2.cg HD31.out.2.2.kb (by have h9 := congrArg List.length HD31.out.2.2.cg.ws; rw [List.length_map] at h9; have := HBs.out.2.2; omega)
          rw [← HLn.out.2.2] at h1
          refine h1.mono ?_
          rintro r w'' ⟨rfl, o'', h2, h3⟩
          exact ⟨_, rfl, o'', HD31.out.1.ringB h3 h2, HD31.out.2.1.mv h3 (by decide), HD31.out.2.2.mv h3 (by decide)⟩)
        clear HW30 HV30 HU30
        refine wp_region_ord (C := fun w' => ∃ z : WIn (fun w' => Blk w' p.wb 42 (rcs p) ∧ Blk w' db 80 [.int .i64 B.c.k, .int .i64 B.c.w, .int .u64 B.c.p, .int .i64 B.c.l, .slice xa2 na2 pa2, .slice xb2 nb2 pb2]), w' = z.w) [(false, 0), (false, 1), (false, 2), (false, 3), (false, 4), (false, 5), (false, 6), (false, 7), (false, 8), (true, 9)] (by kernel_rfl) (by kernel_rfl) ⟨⟨w30.drew, HD31.out.1.blk, HD31.out.2.2.var⟩, rfl⟩ ?_
        iterate 9 (refine ord_still rfl rfl ?_; go_big_quiet_step (exact rfl); refine wpQuiet_nil ?_)
        refine ord_mem rfl rfl ?_
        go_simp
        refine HLc.out.mono ?_
        rintro r w31 ⟨n31, rfl, oH31, hw, hv, hu⟩
        refine ⟨⟨⟨w31, hw.blk, hu.var⟩, rfl⟩, ?_⟩
        refine ord_end ?_
        have HW31 : Hid (RG w w31 oH31 p B.S B.S M1 M1 A1 X1 B1 (.slice z7 m1 y7) (.slice z8 m1 y8)) := hw
        have HV31 : Hid (CVar w31 oH31 cb 75 B.c (.slice xa1 na1 pa1) (.slice xb1 nb1 pb1) qs1) := hv
        have HU31 : Hid (CVar w31 oH31 db 80 B.c (.slice xa2 na2 pa2) (.slice xb2 nb2 pb2) qs2) := hu
        clear hw hv hu HD31 HLc ne9 y0 y1 v0 v1 v2 v3 v4 v5
        go_wp2
        go_roundw
        case rel => exact ⟨k + 1, by go_num, by omega, (by rw [HEnd.out]), oH31, _, _, (by rw [HEnd.out]; exact HW31.out)⟩
        case measure => simp [intOf]; omega
      · obtain rfl : k = many := by omega
        have hb0 := HWG.out.blk
        go_wp2
        go_ret
        exact ⟨p, oR, sv, tv, rfl, HWG.out⟩
end Go.Proofs.YtjbpfhnagiacmaaGreat
