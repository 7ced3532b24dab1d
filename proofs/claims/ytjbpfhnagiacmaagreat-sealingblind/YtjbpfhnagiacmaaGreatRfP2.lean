/-
  A state with a member, as the document's answer makes it, lies in rows of its own.
-/
import Derived.Test.YtjbpfhnagiacmaaGreatRfP
namespace Go.Proofs.YtjbpfhnagiacmaaGreat
set_option linter.unusedVariables false
set_option linter.unusedSimpArgs false
set_option synthInstance.maxSize 20000
set_option maxHeartbeats 2000000
set_option maxRecDepth 20000
open Go.RowKit Go.Maps
set_option maxHeartbeats 8000000 in
theorem rput37f {w : World} {v : Value} {l : List Mb} {e : Int} (m : Mb) (hv : RowF mc w v l) (hl : l.length ≤ 1000) : Calls Tryz.prog 69 #[stv v e, mv m] w fun r w' => ∃ v', r = .returned (stv v' e) ∧ RowF mc w' v' (putM l m) ∧ (∀ j, v'.ownBlock = some j → w.heap.size ≤ j) ∧ Below w.heap.size w w' := by
  obtain ⟨av, cap, rfl⟩ := hv.len
  have hcap := hv.caps
  have hc1 : l.length ≤ cap := hcap.2.1
  have hc2 : cap ≤ 9223372036854775807 := hcap.2.2
  obtain ⟨n, hn⟩ : ∃ n, n = l.length := ⟨_, rfl⟩
  have HN : Hid (n = l.length) := hn
  have HPE : Hid (putM l m = putEnd m (putSt m l n)) := (show _ = _ by unfold putM; rw [hn])
  have HRm : Hid (∀ w' : World, RowF mc (w'.alloc (.cells (mc m).toArray 117)) (.slice (some ⟨w'.heap.size, 0, none⟩) 1 1) [m]) := fun w' => rowF_one w' m 117
  obtain ⟨m0, m1, m2, m3, m4⟩ := m
  rw [← hn] at hc1 hv hl ⊢
  have HRm : Hid (∀ w' : World, RowF mc (w'.alloc (.cells #[.int .i64 m0, .int .u64 m1, .int .i64 m2, .int .i64 m3, .int .i64 m4] 117)) (.slice (some ⟨w'.heap.size, 0, none⟩) 1 1) [(⟨m0, m1, m2, m3, m4⟩ : Mb)]) := HRm
  obtain ⟨w1, hw1⟩ : ∃ w1, w1 = (((w.alloc (.cells #[.slice av n cap, .int .i64 e] 71)).alloc (.cells #[.int .i64 m0, .int .u64 m1, .int .i64 m2, .int .i64 m3, .int .i64 m4] 117)).alloc (.cells #[.slice none 0 0, .int .i64 0] 71)).alloc (.cells #[.slice none 0 0, .int .i64 e] 71) := ⟨_, rfl⟩
  have hb1 : Below w.heap.size w w1 := by rw [hw1]; exact balloc (balloc (balloc2 _ _ _) _) _
  have HB1 : Hid (Below w.heap.size w w1) := hb1
  have hs1 : w1.heap.size = w.heap.size + 4 := by rw [hw1]; simp
  have X0 : Hid (Blk w1 w.heap.size 71 [.slice av n cap, .int .i64 e]) := by rw [hw1]; exact ((((blk_new w [.slice av n cap, .int .i64 e] 71).alloc _).alloc _).alloc _)
  have X1 : Hid (Blk w1 (w.heap.size + 1) 117 [.int .i64 m0, .int .u64 m1, .int .i64 m2, .int .i64 m3, .int .i64 m4]) := by
    rw [hw1]
    have := blk3_1 w [.slice av n cap, .int .i64 e] [.int .i64 m0, .int .u64 m1, .int .i64 m2, .int .i64 m3, .int .i64 m4] [.slice none 0 0, .int .i64 0] 71 117 71
    exact this.alloc _
  have X2 : Hid (Blk w1 (w.heap.size + 2) 71 [.slice none 0 0, .int .i64 0]) := by
    rw [hw1]
    have := blk3_2 w [.slice av n cap, .int .i64 e] [.int .i64 m0, .int .u64 m1, .int .i64 m2, .int .i64 m3, .int .i64 m4] [.slice none 0 0, .int .i64 0] 71 117 71
    exact this.alloc _
  have X3 : Hid (OutAt w1 w1 (w.heap.size + 3) e (.slice none 0 0) []) := (show OutAt _ _ _ _ _ _ from ⟨Below.refl _ _, by
    rw [hw1]
    have h0 := blk_new (((w.alloc (.cells #[.slice av n cap, .int .i64 e] 71)).alloc (.cells #[.int .i64 m0, .int .u64 m1, .int .i64 m2, .int .i64 m3, .int .i64 m4] 117)).alloc (.cells #[.slice none 0 0, .int .i64 0] 71)) [.slice none 0 0, .int .i64 e] 71
    simp only [World.size_alloc] at h0
    exact h0, World.ownsRow_nil _ _ _ _, fun j hj => by cases hj⟩)
  have HV : Hid (∀ w', Below (w.heap.size + 3) w1 w' → RowF mc w' (.slice av n cap) l) := fun w' hb => hv.below (hb1.trans (hb.mono (by omega)))
  have HV0 : Hid (RowF mc w (.slice av n cap) l) := hv
  have HW1 : Hid (w1 = (((w.alloc (.cells #[.slice av n cap, .int .i64 e] 71)).alloc (.cells #[.int .i64 m0, .int .u64 m1, .int .i64 m2, .int .i64 m3, .int .i64 m4] 117)).alloc (.cells #[.slice none 0 0, .int .i64 0] 71)).alloc (.cells #[.slice none 0 0, .int .i64 e] 71)) := hw1
  have HC : Hid (∀ w', Below (w.heap.size + 3) w1 w' → Below w.heap.size w w' ∧ Blk w' w.heap.size 71 [.slice av n cap, .int .i64 e] ∧ Blk w' (w.heap.size + 1) 117 [.int .i64 m0, .int .u64 m1, .int .i64 m2, .int .i64 m3, .int .i64 m4] ∧ Blk w' (w.heap.size + 2) 71 [.slice none 0 0, .int .i64 0]) := fun w' hb =>
    ⟨hb1.trans (hb.mono (by omega)), X0.out.block (hb.block _ (by omega)), X1.out.block (hb.block _ (by omega)), X2.out.block (hb.block _ (by omega))⟩
  have HLn : Hid (∀ k, (putSt (⟨m0, m1, m2, m3, m4⟩ : Mb) l k).1.length ≤ 2 * k) := putSt_len (⟨m0, m1, m2, m3, m4⟩ : Mb) l
  clear hv hcap hn hw1 hb1 hs1 X0 X1 X2
  unfold stv mv
  go_enter Tryz.func69, Tryz.ntmps69
  go_upto_region 2 with fail
  rw [← HW1.out]
  go_wp2
  go_loopw [6, 7] (fun bv iv wr => ∃ (k : Nat) (oa : Option Addr) (oc : Nat) (ol : List Mb) (bn : Bool), iv = .int .i64 k ∧ k ≤ n ∧ bv = .bool bn ∧ Hid (putSt (⟨m0, m1, m2, m3, m4⟩ : Mb) l k = (ol, bn)) ∧ Hid (OutAt w1 wr (w.heap.size + 3) e (.slice oa ol.length oc) ol)) (fun _ iv _ => n - (intOf iv).toNat)
  case atStart => exact ⟨0, none, 0, [], false, rfl, by omega, rfl, (rfl : putSt (⟨m0, m1, m2, m3, m4⟩ : Mb) l 0 = ([], false)), X3⟩
  case round =>
    obtain ⟨k, oa, oc, ol, bn, rfl, hk, rfl, HSt, HOq⟩ := hrel
    obtain ⟨wq, hwq⟩ : ∃ wq, wq = wr := ⟨_, rfl⟩
    rw [← hwq] at HOq ⊢
    clear hwq X3
    have HOl : Hid (ol.length ≤ 2000) := (show _ ≤ _ from by
      have h1 := HLn.out k
      rw [HSt.out] at h1
      dsimp only at h1
      omega)
    have k0 := (HC.out wq HOq.out.bel).2.1.cell 0 _ rfl
    by_cases hki : k < n
    · obtain ⟨x, hx⟩ : ∃ x, l[k]? = some x := ⟨_, List.getElem?_eq_getElem (by have := HN.out; omega)⟩
      have HSs : Hid (putSt (⟨m0, m1, m2, m3, m4⟩ : Mb) l (k + 1) = putStep (⟨m0, m1, m2, m3, m4⟩ : Mb) (ol, bn) x) := (show _ = _ by rw [putSt_succ hx, HSt.out])
      obtain ⟨g, off, ea, hr⟩ := (HV.out wq HOq.out.bel).at mc_len hx
      subst ea
      have HRx : Hid (∀ w' : World, RowF mc (w'.alloc (.cells (mc x).toArray 117)) (.slice (some ⟨w'.heap.size, 0, none⟩) 1 1) [x]) := fun w' => rowF_one w' x 117
      have HXc : Hid (∀ w', Below (w.heap.size + 3) w1 w' → ∀ i u, (mc x)[i]? = some u → w'.cell? ⟨g, off + k * 5 + i, none⟩ = some u) := fun w' hb i u hu => by
        obtain ⟨g', off', ea', hr'⟩ := (HV.out w' hb).at mc_len hx
        cases ea'
        exact hr' i u hu
      obtain ⟨x0, x1, x2, x3, x4⟩ := x
      have HRx : Hid (∀ w' : World, RowF mc (w'.alloc (.cells #[.int .i64 x0, .int .u64 x1, .int .i64 x2, .int .i64 x3, .int .i64 x4] 117)) (.slice (some ⟨w'.heap.size, 0, none⟩) 1 1) [(⟨x0, x1, x2, x3, x4⟩ : Mb)]) := HRx
      have HXc : Hid (∀ w', Below (w.heap.size + 3) w1 w' → ∀ i u, (mc (⟨x0, x1, x2, x3, x4⟩ : Mb))[i]? = some u → w'.cell? ⟨g, off + k * 5 + i, none⟩ = some u) := HXc
      clear hr hx
      go_upto_region 6 with fail
      clear k0
      cases bn
      · by_cases hle : m0 ≤ x0
        · by_cases heq : x0 = m0
          · have heq2 := heq.symm
            subst heq2
            clear heq
            have hcl : ∀ (z : WIn (fun w' => w' = wq.drew)) p v, wq.cell? p = some v → z.w.cell? p = some v := fun z p v hp => by rw [z.ok]; exact hp
            have z0 := fun z => hcl z _ _ ((HC.out wq HOq.out.bel).2.1.cell 0 _ rfl)
            have z1 := fun z => hcl z _ _ ((HC.out wq HOq.out.bel).2.2.1.cell 0 _ rfl)
            have z2 := fun z => hcl z _ _ (HXc.out wq HOq.out.bel 0 _ rfl)
            simp only [Nat.add_zero] at z2
            have ne : Nonempty (WIn (fun w' => w' = wq.drew)) := ⟨⟨wq.drew, rfl⟩⟩
            clear hcl
            refine wp_region_ord (C := fun w' => ∃ z : WIn (fun w' => w' = wq.drew), w' = z.w) [(false, 0), (false, 1), (false, 2), (false, 3), (false, 4), (false, 5), (false, 6), (false, 7), (false, 8), (false, 9), (false, 10), (false, 11), (false, 12)] (by kernel_rfl) (by kernel_rfl) ⟨⟨wq.drew, rfl⟩, rfl⟩ ?_
            iterate 13 (refine ord_still rfl rfl ?_; go_big_quiet_step (fail); refine wpQuiet_nil ?_)
            refine ord_end ?_
            clear z0 z1 z2 ne
            have HOd : Hid (OutAt w1 wq.drew (w.heap.size + 3) e _ _) := (show OutAt _ _ _ _ _ _ from HOq.out.drew)
            clear HOq
            generalize wq.drew = wd at *
            have HOq : Hid (OutAt w1 wd (w.heap.size + 3) e (.slice oa ol.length oc) ol) := HOd
            clear HOd
            have HBs : Hid ((w.heap.size + 3) + 1 ≤ wd.heap.size) := (show _ ≤ _ from HOq.out.blk.lt)
            have HFd : Hid (∀ wz w3, Below ((w.heap.size + 3) + 1) wd wz → wz.grownBy w3 (Value.slice oa (ol).length oc).ownBlock → Below ((w.heap.size + 3) + 1) wd w3) := fun wz w3 hz h2 => hz.grown h2 (Nat.le_trans HBs.out hz.size) (fun j hj => HOq.out.new j hj)
            have HFm : Hid (∀ wz w3 v3, Below ((w.heap.size + 3) + 1) wd wz → w3.ownsRow 0 117 5 v3 (ol ++ [(⟨m0, m1, m2, m3, m4⟩ : Mb)]).length (flat mc (ol ++ [(⟨m0, m1, m2, m3, m4⟩ : Mb)])) → wz.grownBy w3 (Value.slice oa (ol).length oc).ownBlock → (∀ j, v3.ownBlock = some j → (Value.slice oa (ol).length oc).ownBlock = some j ∨ wz.heap.size ≤ j) → OutAt w1 (w3.setCell ⟨(w.heap.size + 3), 0, none⟩ v3) (w.heap.size + 3) e v3 (ol ++ [(⟨m0, m1, m2, m3, m4⟩ : Mb)])) := fun wz w3 v3 hz h1 h2 h3 => by
              refine HOq.out.put (HFd.out wz w3 hz h2) h1 (fun j hj => ?_)
              rcases h3 j hj with r | r
              · exact HOq.out.new j r
              · have := Nat.le_trans HBs.out hz.size
                omega
            have HFb : Hid (∀ w3, Below ((w.heap.size + 3) + 1) wd w3 → w3.cell? ⟨(w.heap.size + 3), 0, none⟩ = some (.slice oa (ol).length oc) ∧ w3.frozen? ⟨(w.heap.size + 3), 0, none⟩ = false) := fun w3 hb => by
              have := HOq.out.blk.block (hb.block (w.heap.size + 3) (by omega))
              exact ⟨this.cell 0 _ rfl, this.frozen 0⟩
            have HDm : Hid (Below ((w.heap.size + 3) + 1) wd (wd.alloc (.cells #[.int .i64 m0, .int .u64 m1, .int .i64 m2, .int .i64 m3, .int .i64 m4] 117))) := (show Below _ _ _ from (Below.refl _ _).alloc HBs.out _)
            have g0 := HOq.out.blk.cell 0 _ rfl
            have n0 := (HC.out wd HOq.out.bel).2.2.1.cell 0 _ rfl; have n1 := (HC.out wd HOq.out.bel).2.2.1.cell 1 _ rfl; have n2 := (HC.out wd HOq.out.bel).2.2.1.cell 2 _ rfl; have n3 := (HC.out wd HOq.out.bel).2.2.1.cell 3 _ rfl; have n4 := (HC.out wd HOq.out.bel).2.2.1.cell 4 _ rfl
            go_upto_region 9 with (at_builtin; go_must (refine wpList_append_rows ty30 mc_len (by omega) rfl (.tmp 32) (.tmp 34) rfl _ (ol) rfl (HOq.out.own.alloc _) _ [(⟨m0, m1, m2, m3, m4⟩ : Mb)] rfl (HRm.out wd) (flat_mc_one _) (by have := HOl.out; simp; omega) ?_; intro v3 w3 hr3 hg3 hn3; obtain ⟨a3, q3, hv3, hq3⟩ := slice_of_own hr3; subst hv3; have HP : Hid (OutAt w1 (w3.setCell ⟨w.heap.size + 1 + 1 + 1, 0, none⟩ (.slice a3 (ol.length + 1) q3)) (w.heap.size + 3) e (.slice a3 (ol ++ [(⟨m0, m1, m2, m3, m4⟩ : Mb)]).length q3) (ol ++ [(⟨m0, m1, m2, m3, m4⟩ : Mb)])) := (by have h := HFm.out _ w3 _ HDm.out hr3 hg3 hn3; have hlz : (ol ++ [(⟨m0, m1, m2, m3, m4⟩ : Mb)]).length = ol.length + 1 := (by simp); rw [hlz] at h ⊢; exact h); have f0 := (HFb.out w3 (HFd.out _ w3 HDm.out hg3)).1; have f1 := (HFb.out w3 (HFd.out _ w3 HDm.out hg3)).2; clear hr3 hg3 hn3 hq3))
            clear HOq g0 n0 n1 n2 n3 n4 f0 f1 HFm HFb HFd HBs
            have HOq := HP
            clear HP
            generalize w3.setCell ⟨w.heap.size + 1 + 1 + 1, 0, none⟩ (.slice a3 (ol.length + 1) q3) = wp at *
            have hcl : ∀ (z : WIn (fun w' => w' = wp.drew)) p v, wp.cell? p = some v → z.w.cell? p = some v := fun z p v hp => by rw [z.ok]; exact hp
            have z0 := fun z => hcl z _ _ ((HC.out wp HOq.out.bel).2.1.cell 0 _ rfl)
            have z1 := fun z => hcl z _ _ ((HC.out wp HOq.out.bel).2.2.1.cell 0 _ rfl)
            have z2 := fun z => hcl z _ _ (HXc.out wp HOq.out.bel 0 _ rfl)
            simp only [Nat.add_zero] at z2
            have ne : Nonempty (WIn (fun w' => w' = wp.drew)) := ⟨⟨wp.drew, rfl⟩⟩
            clear hcl
            refine wp_region_ord (C := fun w' => ∃ z : WIn (fun w' => w' = wp.drew), w' = z.w) [(false, 0), (false, 1), (false, 2), (false, 3), (false, 4), (false, 5), (false, 6), (false, 7), (false, 8)] (by kernel_rfl) (by kernel_rfl) ⟨⟨wp.drew, rfl⟩, rfl⟩ ?_
            iterate 9 (refine ord_still rfl rfl ?_; go_big_quiet_step (fail); refine wpQuiet_nil ?_)
            refine ord_end ?_
            clear z0 z1 z2 ne
            have HOd : Hid (OutAt w1 wp.drew (w.heap.size + 3) e _ _) := (show OutAt _ _ _ _ _ _ from HOq.out.drew)
            clear HOq
            generalize wp.drew = we at *
            have HOq : Hid (OutAt w1 we (w.heap.size + 3) e (.slice a3 (ol ++ [(⟨m0, m1, m2, m3, m4⟩ : Mb)]).length q3) (ol ++ [(⟨m0, m1, m2, m3, m4⟩ : Mb)])) := HOd
            clear HOd
            have HOl2 : Hid ((ol ++ [(⟨m0, m1, m2, m3, m4⟩ : Mb)]).length ≤ 2001) := (show _ ≤ _ by have := HOl.out; simp; omega)
            clear HOl
            have HOl := HOl2
            have HSz : Hid (putSt (⟨m0, m1, m2, m3, m4⟩ : Mb) l (k + 1) = (ol ++ [(⟨m0, m1, m2, m3, m4⟩ : Mb)], true)) := (show _ = _ by rw [HSs.out]; unfold putStep; simp)
            go_wp2
            go_roundw
            case rel => exact ⟨k + 1, a3, q3, ol ++ [(⟨m0, m1, m2, m3, m4⟩ : Mb)], true, by go_num, by omega, rfl, HSz, HOq⟩
            case measure => simp [intOf]; omega
          · have hcl : ∀ (z : WIn (fun w' => w' = wq.drew)) p v, wq.cell? p = some v → z.w.cell? p = some v := fun z p v hp => by rw [z.ok]; exact hp
            have z0 := fun z => hcl z _ _ ((HC.out wq HOq.out.bel).2.1.cell 0 _ rfl)
            have z1 := fun z => hcl z _ _ ((HC.out wq HOq.out.bel).2.2.1.cell 0 _ rfl)
            have z2 := fun z => hcl z _ _ (HXc.out wq HOq.out.bel 0 _ rfl)
            simp only [Nat.add_zero] at z2
            have ne : Nonempty (WIn (fun w' => w' = wq.drew)) := ⟨⟨wq.drew, rfl⟩⟩
            clear hcl
            refine wp_region_ord (C := fun w' => ∃ z : WIn (fun w' => w' = wq.drew), w' = z.w) [(false, 0), (false, 1), (false, 2), (false, 3), (false, 4), (false, 5), (false, 6), (false, 7), (false, 8), (false, 9), (false, 10), (false, 11), (false, 12)] (by kernel_rfl) (by kernel_rfl) ⟨⟨wq.drew, rfl⟩, rfl⟩ ?_
            iterate 13 (refine ord_still rfl rfl ?_; go_big_quiet_step (fail); refine wpQuiet_nil ?_)
            refine ord_end ?_
            clear z0 z1 z2 ne
            have HOd : Hid (OutAt w1 wq.drew (w.heap.size + 3) e _ _) := (show OutAt _ _ _ _ _ _ from HOq.out.drew)
            clear HOq
            generalize wq.drew = wd at *
            have HOq : Hid (OutAt w1 wd (w.heap.size + 3) e (.slice oa ol.length oc) ol) := HOd
            clear HOd
            have HBs : Hid ((w.heap.size + 3) + 1 ≤ wd.heap.size) := (show _ ≤ _ from HOq.out.blk.lt)
            have HFd : Hid (∀ wz w3, Below ((w.heap.size + 3) + 1) wd wz → wz.grownBy w3 (Value.slice oa (ol).length oc).ownBlock → Below ((w.heap.size + 3) + 1) wd w3) := fun wz w3 hz h2 => hz.grown h2 (Nat.le_trans HBs.out hz.size) (fun j hj => HOq.out.new j hj)
            have HFm : Hid (∀ wz w3 v3, Below ((w.heap.size + 3) + 1) wd wz → w3.ownsRow 0 117 5 v3 (ol ++ [(⟨m0, m1, m2, m3, m4⟩ : Mb)]).length (flat mc (ol ++ [(⟨m0, m1, m2, m3, m4⟩ : Mb)])) → wz.grownBy w3 (Value.slice oa (ol).length oc).ownBlock → (∀ j, v3.ownBlock = some j → (Value.slice oa (ol).length oc).ownBlock = some j ∨ wz.heap.size ≤ j) → OutAt w1 (w3.setCell ⟨(w.heap.size + 3), 0, none⟩ v3) (w.heap.size + 3) e v3 (ol ++ [(⟨m0, m1, m2, m3, m4⟩ : Mb)])) := fun wz w3 v3 hz h1 h2 h3 => by
              refine HOq.out.put (HFd.out wz w3 hz h2) h1 (fun j hj => ?_)
              rcases h3 j hj with r | r
              · exact HOq.out.new j r
              · have := Nat.le_trans HBs.out hz.size
                omega
            have HFb : Hid (∀ w3, Below ((w.heap.size + 3) + 1) wd w3 → w3.cell? ⟨(w.heap.size + 3), 0, none⟩ = some (.slice oa (ol).length oc) ∧ w3.frozen? ⟨(w.heap.size + 3), 0, none⟩ = false) := fun w3 hb => by
              have := HOq.out.blk.block (hb.block (w.heap.size + 3) (by omega))
              exact ⟨this.cell 0 _ rfl, this.frozen 0⟩
            have HDm : Hid (Below ((w.heap.size + 3) + 1) wd (wd.alloc (.cells #[.int .i64 m0, .int .u64 m1, .int .i64 m2, .int .i64 m3, .int .i64 m4] 117))) := (show Below _ _ _ from (Below.refl _ _).alloc HBs.out _)
            have g0 := HOq.out.blk.cell 0 _ rfl
            have n0 := (HC.out wd HOq.out.bel).2.2.1.cell 0 _ rfl; have n1 := (HC.out wd HOq.out.bel).2.2.1.cell 1 _ rfl; have n2 := (HC.out wd HOq.out.bel).2.2.1.cell 2 _ rfl; have n3 := (HC.out wd HOq.out.bel).2.2.1.cell 3 _ rfl; have n4 := (HC.out wd HOq.out.bel).2.2.1.cell 4 _ rfl
            go_upto_region 9 with (at_builtin; go_must (refine wpList_append_rows ty30 mc_len (by omega) rfl (.tmp 32) (.tmp 34) rfl _ (ol) rfl (HOq.out.own.alloc _) _ [(⟨m0, m1, m2, m3, m4⟩ : Mb)] rfl (HRm.out wd) (flat_mc_one _) (by have := HOl.out; simp; omega) ?_; intro v3 w3 hr3 hg3 hn3; obtain ⟨a3, q3, hv3, hq3⟩ := slice_of_own hr3; subst hv3; have HP : Hid (OutAt w1 (w3.setCell ⟨w.heap.size + 1 + 1 + 1, 0, none⟩ (.slice a3 (ol.length + 1) q3)) (w.heap.size + 3) e (.slice a3 (ol ++ [(⟨m0, m1, m2, m3, m4⟩ : Mb)]).length q3) (ol ++ [(⟨m0, m1, m2, m3, m4⟩ : Mb)])) := (by have h := HFm.out _ w3 _ HDm.out hr3 hg3 hn3; have hlz : (ol ++ [(⟨m0, m1, m2, m3, m4⟩ : Mb)]).length = ol.length + 1 := (by simp); rw [hlz] at h ⊢; exact h); have f0 := (HFb.out w3 (HFd.out _ w3 HDm.out hg3)).1; have f1 := (HFb.out w3 (HFd.out _ w3 HDm.out hg3)).2; clear hr3 hg3 hn3 hq3))
            clear HOq g0 n0 n1 n2 n3 n4 f0 f1 HFm HFb HFd HBs
            have HOq := HP
            clear HP
            generalize w3.setCell ⟨w.heap.size + 1 + 1 + 1, 0, none⟩ (.slice a3 (ol.length + 1) q3) = wp at *
            have hcl : ∀ (z : WIn (fun w' => w' = wp.drew)) p v, wp.cell? p = some v → z.w.cell? p = some v := fun z p v hp => by rw [z.ok]; exact hp
            have z0 := fun z => hcl z _ _ ((HC.out wp HOq.out.bel).2.1.cell 0 _ rfl)
            have z1 := fun z => hcl z _ _ ((HC.out wp HOq.out.bel).2.2.1.cell 0 _ rfl)
            have z2 := fun z => hcl z _ _ (HXc.out wp HOq.out.bel 0 _ rfl)
            simp only [Nat.add_zero] at z2
            have ne : Nonempty (WIn (fun w' => w' = wp.drew)) := ⟨⟨wp.drew, rfl⟩⟩
            clear hcl
            refine wp_region_ord (C := fun w' => ∃ z : WIn (fun w' => w' = wp.drew), w' = z.w) [(false, 0), (false, 1), (false, 2), (false, 3), (false, 4), (false, 5), (false, 6), (false, 7), (false, 8)] (by kernel_rfl) (by kernel_rfl) ⟨⟨wp.drew, rfl⟩, rfl⟩ ?_
            iterate 9 (refine ord_still rfl rfl ?_; go_big_quiet_step (fail); refine wpQuiet_nil ?_)
            refine ord_end ?_
            clear z0 z1 z2 ne
            have HOd : Hid (OutAt w1 wp.drew (w.heap.size + 3) e _ _) := (show OutAt _ _ _ _ _ _ from HOq.out.drew)
            clear HOq
            generalize wp.drew = we at *
            have HOq : Hid (OutAt w1 we (w.heap.size + 3) e (.slice a3 (ol ++ [(⟨m0, m1, m2, m3, m4⟩ : Mb)]).length q3) (ol ++ [(⟨m0, m1, m2, m3, m4⟩ : Mb)])) := HOd
            clear HOd
            have HOl2 : Hid ((ol ++ [(⟨m0, m1, m2, m3, m4⟩ : Mb)]).length ≤ 2001) := (show _ ≤ _ by have := HOl.out; simp; omega)
            clear HOl
            have HOl := HOl2
            obtain ⟨ol2, hol2⟩ : ∃ ol2, ol2 = ol ++ [(⟨m0, m1, m2, m3, m4⟩ : Mb)] := ⟨_, rfl⟩
            have HO2 : Hid (ol2 = ol ++ [(⟨m0, m1, m2, m3, m4⟩ : Mb)]) := hol2
            rw [← hol2] at HOq HOl
            clear hol2
            have HBs : Hid ((w.heap.size + 3) + 1 ≤ we.heap.size) := (show _ ≤ _ from HOq.out.blk.lt)
            have HFd : Hid (∀ wz w3, Below ((w.heap.size + 3) + 1) we wz → wz.grownBy w3 (Value.slice a3 (ol2).length q3).ownBlock → Below ((w.heap.size + 3) + 1) we w3) := fun wz w3 hz h2 => hz.grown h2 (Nat.le_trans HBs.out hz.size) (fun j hj => HOq.out.new j hj)
            have HFm : Hid (∀ wz w3 v3, Below ((w.heap.size + 3) + 1) we wz → w3.ownsRow 0 117 5 v3 (ol2 ++ [(⟨x0, x1, x2, x3, x4⟩ : Mb)]).length (flat mc (ol2 ++ [(⟨x0, x1, x2, x3, x4⟩ : Mb)])) → wz.grownBy w3 (Value.slice a3 (ol2).length q3).ownBlock → (∀ j, v3.ownBlock = some j → (Value.slice a3 (ol2).length q3).ownBlock = some j ∨ wz.heap.size ≤ j) → OutAt w1 (w3.setCell ⟨(w.heap.size + 3), 0, none⟩ v3) (w.heap.size + 3) e v3 (ol2 ++ [(⟨x0, x1, x2, x3, x4⟩ : Mb)])) := fun wz w3 v3 hz h1 h2 h3 => by
              refine HOq.out.put (HFd.out wz w3 hz h2) h1 (fun j hj => ?_)
              rcases h3 j hj with r | r
              · exact HOq.out.new j r
              · have := Nat.le_trans HBs.out hz.size
                omega
            have HFb : Hid (∀ w3, Below ((w.heap.size + 3) + 1) we w3 → w3.cell? ⟨(w.heap.size + 3), 0, none⟩ = some (.slice a3 (ol2).length q3) ∧ w3.frozen? ⟨(w.heap.size + 3), 0, none⟩ = false) := fun w3 hb => by
              have := HOq.out.blk.block (hb.block (w.heap.size + 3) (by omega))
              exact ⟨this.cell 0 _ rfl, this.frozen 0⟩
            have hcl : ∀ (z : WIn (fun w' => Below ((w.heap.size + 3) + 1) we w')), Below (w.heap.size + 3) w1 z.w := fun z => HOq.out.bel.trans (z.ok.mono (by omega))
            have z0 := fun z : WIn (fun w' => Below ((w.heap.size + 3) + 1) we w') => (HC.out z.w (hcl z)).2.1.cell 0 _ rfl
            have z1 := fun z : WIn (fun w' => Below ((w.heap.size + 3) + 1) we w') => (HFb.out z.w z.ok).1
            have c0 := fun z : WIn (fun w' => Below ((w.heap.size + 3) + 1) we w') => HXc.out z.w (hcl z) 0 _ rfl; have c1 := fun z : WIn (fun w' => Below ((w.heap.size + 3) + 1) we w') => HXc.out z.w (hcl z) 1 _ rfl; have c2 := fun z : WIn (fun w' => Below ((w.heap.size + 3) + 1) we w') => HXc.out z.w (hcl z) 2 _ rfl; have c3 := fun z : WIn (fun w' => Below ((w.heap.size + 3) + 1) we w') => HXc.out z.w (hcl z) 3 _ rfl; have c4 := fun z : WIn (fun w' => Below ((w.heap.size + 3) + 1) we w') => HXc.out z.w (hcl z) 4 _ rfl
            simp only [Nat.add_zero] at c0
            have ne : Nonempty (WIn (fun w' => Below ((w.heap.size + 3) + 1) we w')) := ⟨⟨we, Below.refl _ _⟩⟩
            have HD : Hid (Below ((w.heap.size + 3) + 1) we we.drew) := (show Below _ _ _ from (Below.refl _ _).drew)
            have HDa : Hid (Below ((w.heap.size + 3) + 1) we (we.alloc (.cells #[.int .i64 x0, .int .u64 x1, .int .i64 x2, .int .i64 x3, .int .i64 x4] 117)).drew) := (show Below _ _ _ from ((Below.refl _ _).alloc HBs.out _).drew)
            clear hcl
            go_upto_region 10 with fail
            refine wp_region_treeZ (C := fun w' => ∃ z : WIn (fun w' => Below ((w.heap.size + 3) + 1) we w'), w' = z.w) 10 (.still 0 (.still 1 (.still 2 (.still 3 (.still 4 (.still 5 (.still 6 (.one 7 (.one 8 (.still 9 .done)))))))))) rfl (by kernel_rfl) (by kernel_rfl) ⟨⟨we.drew, HD.out⟩, rfl⟩ ?_
            iterate 7 (refine tree_still rfl rfl ?_; go_big_quiet_step (fail); refine wpQuiet_nil ?_)
            refine tree_one rfl rfl ?_
            go_simp
            refine ⟨⟨⟨_, HDa.out⟩, rfl⟩, ?_⟩
            go_simp
            refine tree_one rfl rfl ?_
            refine wp_of_list rfl ?_
            refine wpList_append_rows ty30 mc_len (by omega) rfl (.tmp 47) (.tmp 53) rfl _ (ol2) rfl (show (we.alloc (.cells #[.int .i64 x0, .int .u64 x1, .int .i64 x2, .int .i64 x3, .int .i64 x4] 117)).drew.ownsRow _ _ _ _ _ _ from (HOq.out.own.alloc _)) _ [(⟨x0, x1, x2, x3, x4⟩ : Mb)] rfl (show RowF _ (we.alloc (.cells #[.int .i64 x0, .int .u64 x1, .int .i64 x2, .int .i64 x3, .int .i64 x4] 117)).drew _ _ from HRx.out we) (flat_mc_one _) (by have := HOl.out; simp; omega) ?_
            intro v4x w4x hr4 hg4 hn4
            obtain ⟨a4, q4, hv4x, hq4⟩ := slice_of_own hr4
            subst hv4x
            have HP : Hid (OutAt w1 (w4x.setCell ⟨w.heap.size + 1 + 1 + 1, 0, none⟩ (.slice a4 (ol2.length + 1) q4)) (w.heap.size + 3) e (.slice a4 (ol2 ++ [(⟨x0, x1, x2, x3, x4⟩ : Mb)]).length q4) (ol2 ++ [(⟨x0, x1, x2, x3, x4⟩ : Mb)])) := (by have h := HFm.out _ w4x _ HDa.out hr4 hg4 hn4; have hlz : (ol2 ++ [(⟨x0, x1, x2, x3, x4⟩ : Mb)]).length = ol2.length + 1 := (by simp); rw [hlz] at h ⊢; exact h)
            have HB3 : Hid (Below ((w.heap.size + 3) + 1) we w4x) := (show Below _ _ _ from HFd.out _ w4x HDa.out hg4)
            have f0 := (HFb.out w4x HB3.out).1; have f1 := (HFb.out w4x HB3.out).2
            clear hr4 hg4 hn4 hq4
            refine ⟨rfl, ⟨⟨_, HB3.out⟩, rfl⟩, ?_⟩
            go_simp
            refine tree_still rfl rfl ?_; go_big_quiet_step (fail); refine wpQuiet_nil ?_
            refine tree_done ?_
            refine ⟨rfl, ?_⟩
            go_simp
            clear z0 z1 c0 c1 c2 c3 c4 ne f0 f1
            have HSz : Hid (putSt (⟨m0, m1, m2, m3, m4⟩ : Mb) l (k + 1) = (ol2 ++ [(⟨x0, x1, x2, x3, x4⟩ : Mb)], true)) := (show _ = _ by rw [HSs.out, HO2.out]; unfold putStep; simp [hle, heq])
            go_wp2
            go_roundw
            case rel => exact ⟨k + 1, a4, q4, ol2 ++ [(⟨x0, x1, x2, x3, x4⟩ : Mb)], true, by go_num, by omega, rfl, HSz, HP⟩
            case measure => simp [intOf]; omega
        · have heq : ¬ x0 = m0 := by omega
          have hcl : ∀ (z : WIn (fun w' => w' = wq.drew)) p v, wq.cell? p = some v → z.w.cell? p = some v := fun z p v hp => by rw [z.ok]; exact hp
          have z0 := fun z => hcl z _ _ ((HC.out wq HOq.out.bel).2.1.cell 0 _ rfl)
          have z1 := fun z => hcl z _ _ ((HC.out wq HOq.out.bel).2.2.1.cell 0 _ rfl)
          have z2 := fun z => hcl z _ _ (HXc.out wq HOq.out.bel 0 _ rfl)
          simp only [Nat.add_zero] at z2
          have ne : Nonempty (WIn (fun w' => w' = wq.drew)) := ⟨⟨wq.drew, rfl⟩⟩
          clear hcl
          refine wp_region_ord (C := fun w' => ∃ z : WIn (fun w' => w' = wq.drew), w' = z.w) [(false, 0), (false, 1), (false, 2), (false, 3), (false, 4), (false, 5), (false, 6), (false, 7), (false, 8), (false, 9), (false, 10), (false, 11), (false, 12)] (by kernel_rfl) (by kernel_rfl) ⟨⟨wq.drew, rfl⟩, rfl⟩ ?_
          iterate 13 (refine ord_still rfl rfl ?_; go_big_quiet_step (fail); refine wpQuiet_nil ?_)
          refine ord_end ?_
          clear z0 z1 z2 ne
          have HOd : Hid (OutAt w1 wq.drew (w.heap.size + 3) e _ _) := (show OutAt _ _ _ _ _ _ from HOq.out.drew)
          clear HOq
          generalize wq.drew = wd at *
          have HOq : Hid (OutAt w1 wd (w.heap.size + 3) e (.slice oa ol.length oc) ol) := HOd
          clear HOd
          go_upto_region 9 with fail
          have hcl : ∀ (z : WIn (fun w' => w' = wd.drew)) p v, wd.cell? p = some v → z.w.cell? p = some v := fun z p v hp => by rw [z.ok]; exact hp
          have z0 := fun z => hcl z _ _ ((HC.out wd HOq.out.bel).2.1.cell 0 _ rfl)
          have z1 := fun z => hcl z _ _ ((HC.out wd HOq.out.bel).2.2.1.cell 0 _ rfl)
          have z2 := fun z => hcl z _ _ (HXc.out wd HOq.out.bel 0 _ rfl)
          simp only [Nat.add_zero] at z2
          have ne : Nonempty (WIn (fun w' => w' = wd.drew)) := ⟨⟨wd.drew, rfl⟩⟩
          clear hcl
          refine wp_region_ord (C := fun w' => ∃ z : WIn (fun w' => w' = wd.drew), w' = z.w) [(false, 0), (false, 1), (false, 2), (false, 3), (false, 4), (false, 5), (false, 6), (false, 7), (false, 8)] (by kernel_rfl) (by kernel_rfl) ⟨⟨wd.drew, rfl⟩, rfl⟩ ?_
          iterate 9 (refine ord_still rfl rfl ?_; go_big_quiet_step (fail); refine wpQuiet_nil ?_)
          refine ord_end ?_
          clear z0 z1 z2 ne
          have HOd : Hid (OutAt w1 wd.drew (w.heap.size + 3) e _ _) := (show OutAt _ _ _ _ _ _ from HOq.out.drew)
          clear HOq
          generalize wd.drew = we at *
          have HOq : Hid (OutAt w1 we (w.heap.size + 3) e (.slice oa (ol).length oc) (ol)) := HOd
          clear HOd
          have HBs : Hid ((w.heap.size + 3) + 1 ≤ we.heap.size) := (show _ ≤ _ from HOq.out.blk.lt)
          have HFd : Hid (∀ wz w3, Below ((w.heap.size + 3) + 1) we wz → wz.grownBy w3 (Value.slice oa (ol).length oc).ownBlock → Below ((w.heap.size + 3) + 1) we w3) := fun wz w3 hz h2 => hz.grown h2 (Nat.le_trans HBs.out hz.size) (fun j hj => HOq.out.new j hj)
          have HFm : Hid (∀ wz w3 v3, Below ((w.heap.size + 3) + 1) we wz → w3.ownsRow 0 117 5 v3 (ol ++ [(⟨x0, x1, x2, x3, x4⟩ : Mb)]).length (flat mc (ol ++ [(⟨x0, x1, x2, x3, x4⟩ : Mb)])) → wz.grownBy w3 (Value.slice oa (ol).length oc).ownBlock → (∀ j, v3.ownBlock = some j → (Value.slice oa (ol).length oc).ownBlock = some j ∨ wz.heap.size ≤ j) → OutAt w1 (w3.setCell ⟨(w.heap.size + 3), 0, none⟩ v3) (w.heap.size + 3) e v3 (ol ++ [(⟨x0, x1, x2, x3, x4⟩ : Mb)])) := fun wz w3 v3 hz h1 h2 h3 => by
            refine HOq.out.put (HFd.out wz w3 hz h2) h1 (fun j hj => ?_)
            rcases h3 j hj with r | r
            · exact HOq.out.new j r
            · have := Nat.le_trans HBs.out hz.size
              omega
          have HFb : Hid (∀ w3, Below ((w.heap.size + 3) + 1) we w3 → w3.cell? ⟨(w.heap.size + 3), 0, none⟩ = some (.slice oa (ol).length oc) ∧ w3.frozen? ⟨(w.heap.size + 3), 0, none⟩ = false) := fun w3 hb => by
            have := HOq.out.blk.block (hb.block (w.heap.size + 3) (by omega))
            exact ⟨this.cell 0 _ rfl, this.frozen 0⟩
          have hcl : ∀ (z : WIn (fun w' => Below ((w.heap.size + 3) + 1) we w')), Below (w.heap.size + 3) w1 z.w := fun z => HOq.out.bel.trans (z.ok.mono (by omega))
          have z0 := fun z : WIn (fun w' => Below ((w.heap.size + 3) + 1) we w') => (HC.out z.w (hcl z)).2.1.cell 0 _ rfl
          have z1 := fun z : WIn (fun w' => Below ((w.heap.size + 3) + 1) we w') => (HFb.out z.w z.ok).1
          have c0 := fun z : WIn (fun w' => Below ((w.heap.size + 3) + 1) we w') => HXc.out z.w (hcl z) 0 _ rfl; have c1 := fun z : WIn (fun w' => Below ((w.heap.size + 3) + 1) we w') => HXc.out z.w (hcl z) 1 _ rfl; have c2 := fun z : WIn (fun w' => Below ((w.heap.size + 3) + 1) we w') => HXc.out z.w (hcl z) 2 _ rfl; have c3 := fun z : WIn (fun w' => Below ((w.heap.size + 3) + 1) we w') => HXc.out z.w (hcl z) 3 _ rfl; have c4 := fun z : WIn (fun w' => Below ((w.heap.size + 3) + 1) we w') => HXc.out z.w (hcl z) 4 _ rfl
          simp only [Nat.add_zero] at c0
          have ne : Nonempty (WIn (fun w' => Below ((w.heap.size + 3) + 1) we w')) := ⟨⟨we, Below.refl _ _⟩⟩
          have HD : Hid (Below ((w.heap.size + 3) + 1) we we.drew) := (show Below _ _ _ from (Below.refl _ _).drew)
          have HDa : Hid (Below ((w.heap.size + 3) + 1) we (we.alloc (.cells #[.int .i64 x0, .int .u64 x1, .int .i64 x2, .int .i64 x3, .int .i64 x4] 117)).drew) := (show Below _ _ _ from ((Below.refl _ _).alloc HBs.out _).drew)
          clear hcl
          go_upto_region 10 with fail
          refine wp_region_treeZ (C := fun w' => ∃ z : WIn (fun w' => Below ((w.heap.size + 3) + 1) we w'), w' = z.w) 10 (.still 0 (.still 1 (.still 2 (.still 3 (.still 4 (.still 5 (.still 6 (.one 7 (.one 8 (.still 9 .done)))))))))) rfl (by kernel_rfl) (by kernel_rfl) ⟨⟨we.drew, HD.out⟩, rfl⟩ ?_
          iterate 7 (refine tree_still rfl rfl ?_; go_big_quiet_step (fail); refine wpQuiet_nil ?_)
          refine tree_one rfl rfl ?_
          go_simp
          refine ⟨⟨⟨_, HDa.out⟩, rfl⟩, ?_⟩
          go_simp
          refine tree_one rfl rfl ?_
          refine wp_of_list rfl ?_
          refine wpList_append_rows ty30 mc_len (by omega) rfl (.tmp 47) (.tmp 53) rfl _ (ol) rfl (show (we.alloc (.cells #[.int .i64 x0, .int .u64 x1, .int .i64 x2, .int .i64 x3, .int .i64 x4] 117)).drew.ownsRow _ _ _ _ _ _ from (HOq.out.own.alloc _)) _ [(⟨x0, x1, x2, x3, x4⟩ : Mb)] rfl (show RowF _ (we.alloc (.cells #[.int .i64 x0, .int .u64 x1, .int .i64 x2, .int .i64 x3, .int .i64 x4] 117)).drew _ _ from HRx.out we) (flat_mc_one _) (by have := HOl.out; simp; omega) ?_
          intro v4x w4x hr4 hg4 hn4
          obtain ⟨a4, q4, hv4x, hq4⟩ := slice_of_own hr4
          subst hv4x
          have HP : Hid (OutAt w1 (w4x.setCell ⟨w.heap.size + 1 + 1 + 1, 0, none⟩ (.slice a4 (ol.length + 1) q4)) (w.heap.size + 3) e (.slice a4 (ol ++ [(⟨x0, x1, x2, x3, x4⟩ : Mb)]).length q4) (ol ++ [(⟨x0, x1, x2, x3, x4⟩ : Mb)])) := (by have h := HFm.out _ w4x _ HDa.out hr4 hg4 hn4; have hlz : (ol ++ [(⟨x0, x1, x2, x3, x4⟩ : Mb)]).length = ol.length + 1 := (by simp); rw [hlz] at h ⊢; exact h)
          have HB3 : Hid (Below ((w.heap.size + 3) + 1) we w4x) := (show Below _ _ _ from HFd.out _ w4x HDa.out hg4)
          have f0 := (HFb.out w4x HB3.out).1; have f1 := (HFb.out w4x HB3.out).2
          clear hr4 hg4 hn4 hq4
          refine ⟨rfl, ⟨⟨_, HB3.out⟩, rfl⟩, ?_⟩
          go_simp
          refine tree_still rfl rfl ?_; go_big_quiet_step (fail); refine wpQuiet_nil ?_
          refine tree_done ?_
          refine ⟨rfl, ?_⟩
          go_simp
          clear z0 z1 c0 c1 c2 c3 c4 ne f0 f1
          have HSz : Hid (putSt (⟨m0, m1, m2, m3, m4⟩ : Mb) l (k + 1) = (ol ++ [(⟨x0, x1, x2, x3, x4⟩ : Mb)], false)) := (show _ = _ by rw [HSs.out]; unfold putStep; simp [hle, heq])
          go_wp2
          go_roundw
          case rel => exact ⟨k + 1, a4, q4, ol ++ [(⟨x0, x1, x2, x3, x4⟩ : Mb)], false, by go_num, by omega, rfl, HSz, HP⟩
          case measure => simp [intOf]; omega
      · by_cases heq : x0 = m0
        · have heq2 := heq.symm
          subst heq2
          clear heq
          have hcl : ∀ (z : WIn (fun w' => w' = wq.drew)) p v, wq.cell? p = some v → z.w.cell? p = some v := fun z p v hp => by rw [z.ok]; exact hp
          have z0 := fun z => hcl z _ _ ((HC.out wq HOq.out.bel).2.1.cell 0 _ rfl)
          have z1 := fun z => hcl z _ _ ((HC.out wq HOq.out.bel).2.2.1.cell 0 _ rfl)
          have z2 := fun z => hcl z _ _ (HXc.out wq HOq.out.bel 0 _ rfl)
          simp only [Nat.add_zero] at z2
          have ne : Nonempty (WIn (fun w' => w' = wq.drew)) := ⟨⟨wq.drew, rfl⟩⟩
          clear hcl
          refine wp_region_ord (C := fun w' => ∃ z : WIn (fun w' => w' = wq.drew), w' = z.w) [(false, 0), (false, 1), (false, 2), (false, 3), (false, 4), (false, 5), (false, 6), (false, 7), (false, 8), (false, 9), (false, 10), (false, 11), (false, 12)] (by kernel_rfl) (by kernel_rfl) ⟨⟨wq.drew, rfl⟩, rfl⟩ ?_
          iterate 13 (refine ord_still rfl rfl ?_; go_big_quiet_step (fail); refine wpQuiet_nil ?_)
          refine ord_end ?_
          clear z0 z1 z2 ne
          have HOd : Hid (OutAt w1 wq.drew (w.heap.size + 3) e _ _) := (show OutAt _ _ _ _ _ _ from HOq.out.drew)
          clear HOq
          generalize wq.drew = wd at *
          have HOq : Hid (OutAt w1 wd (w.heap.size + 3) e (.slice oa ol.length oc) ol) := HOd
          clear HOd
          go_upto_region 9 with fail
          have hcl : ∀ (z : WIn (fun w' => w' = wd.drew)) p v, wd.cell? p = some v → z.w.cell? p = some v := fun z p v hp => by rw [z.ok]; exact hp
          have z0 := fun z => hcl z _ _ ((HC.out wd HOq.out.bel).2.1.cell 0 _ rfl)
          have z1 := fun z => hcl z _ _ ((HC.out wd HOq.out.bel).2.2.1.cell 0 _ rfl)
          have z2 := fun z => hcl z _ _ (HXc.out wd HOq.out.bel 0 _ rfl)
          simp only [Nat.add_zero] at z2
          have ne : Nonempty (WIn (fun w' => w' = wd.drew)) := ⟨⟨wd.drew, rfl⟩⟩
          clear hcl
          refine wp_region_ord (C := fun w' => ∃ z : WIn (fun w' => w' = wd.drew), w' = z.w) [(false, 0), (false, 1), (false, 2), (false, 3), (false, 4), (false, 5), (false, 6), (false, 7), (false, 8)] (by kernel_rfl) (by kernel_rfl) ⟨⟨wd.drew, rfl⟩, rfl⟩ ?_
          iterate 9 (refine ord_still rfl rfl ?_; go_big_quiet_step (fail); refine wpQuiet_nil ?_)
          refine ord_end ?_
          clear z0 z1 z2 ne
          have HOd : Hid (OutAt w1 wd.drew (w.heap.size + 3) e _ _) := (show OutAt _ _ _ _ _ _ from HOq.out.drew)
          clear HOq
          generalize wd.drew = we at *
          have HOq : Hid (OutAt w1 we (w.heap.size + 3) e (.slice oa (ol).length oc) (ol)) := HOd
          clear HOd
          have HSz : Hid (putSt (⟨m0, m1, m2, m3, m4⟩ : Mb) l (k + 1) = (ol, true)) := (show _ = _ by rw [HSs.out]; unfold putStep; simp)
          go_wp2
          go_roundw
          case rel => exact ⟨k + 1, oa, oc, ol, true, by go_num, by omega, rfl, HSz, HOq⟩
          case measure => simp [intOf]; omega
        · have hcl : ∀ (z : WIn (fun w' => w' = wq.drew)) p v, wq.cell? p = some v → z.w.cell? p = some v := fun z p v hp => by rw [z.ok]; exact hp
          have z0 := fun z => hcl z _ _ ((HC.out wq HOq.out.bel).2.1.cell 0 _ rfl)
          have z1 := fun z => hcl z _ _ ((HC.out wq HOq.out.bel).2.2.1.cell 0 _ rfl)
          have z2 := fun z => hcl z _ _ (HXc.out wq HOq.out.bel 0 _ rfl)
          simp only [Nat.add_zero] at z2
          have ne : Nonempty (WIn (fun w' => w' = wq.drew)) := ⟨⟨wq.drew, rfl⟩⟩
          clear hcl
          refine wp_region_ord (C := fun w' => ∃ z : WIn (fun w' => w' = wq.drew), w' = z.w) [(false, 0), (false, 1), (false, 2), (false, 3), (false, 4), (false, 5), (false, 6), (false, 7), (false, 8), (false, 9), (false, 10), (false, 11), (false, 12)] (by kernel_rfl) (by kernel_rfl) ⟨⟨wq.drew, rfl⟩, rfl⟩ ?_
          iterate 13 (refine ord_still rfl rfl ?_; go_big_quiet_step (fail); refine wpQuiet_nil ?_)
          refine ord_end ?_
          clear z0 z1 z2 ne
          have HOd : Hid (OutAt w1 wq.drew (w.heap.size + 3) e _ _) := (show OutAt _ _ _ _ _ _ from HOq.out.drew)
          clear HOq
          generalize wq.drew = wd at *
          have HOq : Hid (OutAt w1 wd (w.heap.size + 3) e (.slice oa ol.length oc) ol) := HOd
          clear HOd
          go_upto_region 9 with fail
          have hcl : ∀ (z : WIn (fun w' => w' = wd.drew)) p v, wd.cell? p = some v → z.w.cell? p = some v := fun z p v hp => by rw [z.ok]; exact hp
          have z0 := fun z => hcl z _ _ ((HC.out wd HOq.out.bel).2.1.cell 0 _ rfl)
          have z1 := fun z => hcl z _ _ ((HC.out wd HOq.out.bel).2.2.1.cell 0 _ rfl)
          have z2 := fun z => hcl z _ _ (HXc.out wd HOq.out.bel 0 _ rfl)
          simp only [Nat.add_zero] at z2
          have ne : Nonempty (WIn (fun w' => w' = wd.drew)) := ⟨⟨wd.drew, rfl⟩⟩
          clear hcl
          refine wp_region_ord (C := fun w' => ∃ z : WIn (fun w' => w' = wd.drew), w' = z.w) [(false, 0), (false, 1), (false, 2), (false, 3), (false, 4), (false, 5), (false, 6), (false, 7), (false, 8)] (by kernel_rfl) (by kernel_rfl) ⟨⟨wd.drew, rfl⟩, rfl⟩ ?_
          iterate 9 (refine ord_still rfl rfl ?_; go_big_quiet_step (fail); refine wpQuiet_nil ?_)
          refine ord_end ?_
          clear z0 z1 z2 ne
          have HOd : Hid (OutAt w1 wd.drew (w.heap.size + 3) e _ _) := (show OutAt _ _ _ _ _ _ from HOq.out.drew)
          clear HOq
          generalize wd.drew = we at *
          have HOq : Hid (OutAt w1 we (w.heap.size + 3) e (.slice oa (ol).length oc) (ol)) := HOd
          clear HOd
          have HBs : Hid ((w.heap.size + 3) + 1 ≤ we.heap.size) := (show _ ≤ _ from HOq.out.blk.lt)
          have HFd : Hid (∀ wz w3, Below ((w.heap.size + 3) + 1) we wz → wz.grownBy w3 (Value.slice oa (ol).length oc).ownBlock → Below ((w.heap.size + 3) + 1) we w3) := fun wz w3 hz h2 => hz.grown h2 (Nat.le_trans HBs.out hz.size) (fun j hj => HOq.out.new j hj)
          have HFm : Hid (∀ wz w3 v3, Below ((w.heap.size + 3) + 1) we wz → w3.ownsRow 0 117 5 v3 (ol ++ [(⟨x0, x1, x2, x3, x4⟩ : Mb)]).length (flat mc (ol ++ [(⟨x0, x1, x2, x3, x4⟩ : Mb)])) → wz.grownBy w3 (Value.slice oa (ol).length oc).ownBlock → (∀ j, v3.ownBlock = some j → (Value.slice oa (ol).length oc).ownBlock = some j ∨ wz.heap.size ≤ j) → OutAt w1 (w3.setCell ⟨(w.heap.size + 3), 0, none⟩ v3) (w.heap.size + 3) e v3 (ol ++ [(⟨x0, x1, x2, x3, x4⟩ : Mb)])) := fun wz w3 v3 hz h1 h2 h3 => by
            refine HOq.out.put (HFd.out wz w3 hz h2) h1 (fun j hj => ?_)
            rcases h3 j hj with r | r
            · exact HOq.out.new j r
            · have := Nat.le_trans HBs.out hz.size
              omega
          have HFb : Hid (∀ w3, Below ((w.heap.size + 3) + 1) we w3 → w3.cell? ⟨(w.heap.size + 3), 0, none⟩ = some (.slice oa (ol).length oc) ∧ w3.frozen? ⟨(w.heap.size + 3), 0, none⟩ = false) := fun w3 hb => by
            have := HOq.out.blk.block (hb.block (w.heap.size + 3) (by omega))
            exact ⟨this.cell 0 _ rfl, this.frozen 0⟩
          have hcl : ∀ (z : WIn (fun w' => Below ((w.heap.size + 3) + 1) we w')), Below (w.heap.size + 3) w1 z.w := fun z => HOq.out.bel.trans (z.ok.mono (by omega))
          have z0 := fun z : WIn (fun w' => Below ((w.heap.size + 3) + 1) we w') => (HC.out z.w (hcl z)).2.1.cell 0 _ rfl
          have z1 := fun z : WIn (fun w' => Below ((w.heap.size + 3) + 1) we w') => (HFb.out z.w z.ok).1
          have c0 := fun z : WIn (fun w' => Below ((w.heap.size + 3) + 1) we w') => HXc.out z.w (hcl z) 0 _ rfl; have c1 := fun z : WIn (fun w' => Below ((w.heap.size + 3) + 1) we w') => HXc.out z.w (hcl z) 1 _ rfl; have c2 := fun z : WIn (fun w' => Below ((w.heap.size + 3) + 1) we w') => HXc.out z.w (hcl z) 2 _ rfl; have c3 := fun z : WIn (fun w' => Below ((w.heap.size + 3) + 1) we w') => HXc.out z.w (hcl z) 3 _ rfl; have c4 := fun z : WIn (fun w' => Below ((w.heap.size + 3) + 1) we w') => HXc.out z.w (hcl z) 4 _ rfl
          simp only [Nat.add_zero] at c0
          have ne : Nonempty (WIn (fun w' => Below ((w.heap.size + 3) + 1) we w')) := ⟨⟨we, Below.refl _ _⟩⟩
          have HD : Hid (Below ((w.heap.size + 3) + 1) we we.drew) := (show Below _ _ _ from (Below.refl _ _).drew)
          have HDa : Hid (Below ((w.heap.size + 3) + 1) we (we.alloc (.cells #[.int .i64 x0, .int .u64 x1, .int .i64 x2, .int .i64 x3, .int .i64 x4] 117)).drew) := (show Below _ _ _ from ((Below.refl _ _).alloc HBs.out _).drew)
          clear hcl
          go_upto_region 10 with fail
          refine wp_region_treeZ (C := fun w' => ∃ z : WIn (fun w' => Below ((w.heap.size + 3) + 1) we w'), w' = z.w) 10 (.still 0 (.still 1 (.still 2 (.still 3 (.still 4 (.still 5 (.still 6 (.one 7 (.one 8 (.still 9 .done)))))))))) rfl (by kernel_rfl) (by kernel_rfl) ⟨⟨we.drew, HD.out⟩, rfl⟩ ?_
          iterate 7 (refine tree_still rfl rfl ?_; go_big_quiet_step (fail); refine wpQuiet_nil ?_)
          refine tree_one rfl rfl ?_
          go_simp
          refine ⟨⟨⟨_, HDa.out⟩, rfl⟩, ?_⟩
          go_simp
          refine tree_one rfl rfl ?_
          refine wp_of_list rfl ?_
          refine wpList_append_rows ty30 mc_len (by omega) rfl (.tmp 47) (.tmp 53) rfl _ (ol) rfl (show (we.alloc (.cells #[.int .i64 x0, .int .u64 x1, .int .i64 x2, .int .i64 x3, .int .i64 x4] 117)).drew.ownsRow _ _ _ _ _ _ from (HOq.out.own.alloc _)) _ [(⟨x0, x1, x2, x3, x4⟩ : Mb)] rfl (show RowF _ (we.alloc (.cells #[.int .i64 x0, .int .u64 x1, .int .i64 x2, .int .i64 x3, .int .i64 x4] 117)).drew _ _ from HRx.out we) (flat_mc_one _) (by have := HOl.out; simp; omega) ?_
          intro v4x w4x hr4 hg4 hn4
          obtain ⟨a4, q4, hv4x, hq4⟩ := slice_of_own hr4
          subst hv4x
          have HP : Hid (OutAt w1 (w4x.setCell ⟨w.heap.size + 1 + 1 + 1, 0, none⟩ (.slice a4 (ol.length + 1) q4)) (w.heap.size + 3) e (.slice a4 (ol ++ [(⟨x0, x1, x2, x3, x4⟩ : Mb)]).length q4) (ol ++ [(⟨x0, x1, x2, x3, x4⟩ : Mb)])) := (by have h := HFm.out _ w4x _ HDa.out hr4 hg4 hn4; have hlz : (ol ++ [(⟨x0, x1, x2, x3, x4⟩ : Mb)]).length = ol.length + 1 := (by simp); rw [hlz] at h ⊢; exact h)
          have HB3 : Hid (Below ((w.heap.size + 3) + 1) we w4x) := (show Below _ _ _ from HFd.out _ w4x HDa.out hg4)
          have f0 := (HFb.out w4x HB3.out).1; have f1 := (HFb.out w4x HB3.out).2
          clear hr4 hg4 hn4 hq4
          refine ⟨rfl, ⟨⟨_, HB3.out⟩, rfl⟩, ?_⟩
          go_simp
          refine tree_still rfl rfl ?_; go_big_quiet_step (fail); refine wpQuiet_nil ?_
          refine tree_done ?_
          refine ⟨rfl, ?_⟩
          go_simp
          clear z0 z1 c0 c1 c2 c3 c4 ne f0 f1
          have HSz : Hid (putSt (⟨m0, m1, m2, m3, m4⟩ : Mb) l (k + 1) = (ol ++ [(⟨x0, x1, x2, x3, x4⟩ : Mb)], true)) := (show _ = _ by rw [HSs.out]; unfold putStep; simp [heq])
          go_wp2
          go_roundw
          case rel => exact ⟨k + 1, a4, q4, ol ++ [(⟨x0, x1, x2, x3, x4⟩ : Mb)], true, by go_num, by omega, rfl, HSz, HP⟩
          case measure => simp [intOf]; omega
    · have e1 : putSt (⟨m0, m1, m2, m3, m4⟩ : Mb) l k = putSt (⟨m0, m1, m2, m3, m4⟩ : Mb) l n := by rw [show k = n by omega]
      have HEnd : Hid (putM l (⟨m0, m1, m2, m3, m4⟩ : Mb) = putEnd (⟨m0, m1, m2, m3, m4⟩ : Mb) (ol, bn)) := (show _ = _ by rw [HPE.out, ← e1, HSt.out])
      clear e1
      have Y2 : Hid (∀ w', Below (w.heap.size + 3) w1 w' → Blk w' (w.heap.size + 2) 71 [.slice none 0 0, .int .i64 0]) := fun w' hb => (HC.out w' hb).2.2.2
      have HZ : Hid (∀ w' v' l', OutAt w1 w' (w.heap.size + 3) e v' l' → (∃ x n q, v' = .slice x n q) → Below w.heap.size w (putS w' (w.heap.size + 2) v' e) ∧ RowF mc (putS w' (w.heap.size + 2) v' e) v' l') := fun w' v' l' h hs => by
        have hblk := (HC.out w' h.bel).2.2.2
        have hva : VarAt w' (w.heap.size + 2) 71 (.slice none 0 0) ⟨[], 0⟩ := ⟨hblk, rowF_nil w'⟩
        have hr := rowF_own mc_len h.own
        exact ⟨putS_below (HC.out w' h.bel).1 (by omega), putS_row hva hr hr⟩
      cases bn
      · have HBs : Hid ((w.heap.size + 3) + 1 ≤ wq.heap.size) := (show _ ≤ _ from HOq.out.blk.lt)
        have HFd : Hid (∀ wz w3, Below ((w.heap.size + 3) + 1) wq wz → wz.grownBy w3 (Value.slice oa (ol).length oc).ownBlock → Below ((w.heap.size + 3) + 1) wq w3) := fun wz w3 hz h2 => hz.grown h2 (Nat.le_trans HBs.out hz.size) (fun j hj => HOq.out.new j hj)
        have HFm : Hid (∀ wz w3 v3, Below ((w.heap.size + 3) + 1) wq wz → w3.ownsRow 0 117 5 v3 (ol ++ [(⟨m0, m1, m2, m3, m4⟩ : Mb)]).length (flat mc (ol ++ [(⟨m0, m1, m2, m3, m4⟩ : Mb)])) → wz.grownBy w3 (Value.slice oa (ol).length oc).ownBlock → (∀ j, v3.ownBlock = some j → (Value.slice oa (ol).length oc).ownBlock = some j ∨ wz.heap.size ≤ j) → OutAt w1 (w3.setCell ⟨(w.heap.size + 3), 0, none⟩ v3) (w.heap.size + 3) e v3 (ol ++ [(⟨m0, m1, m2, m3, m4⟩ : Mb)])) := fun wz w3 v3 hz h1 h2 h3 => by
          refine HOq.out.put (HFd.out wz w3 hz h2) h1 (fun j hj => ?_)
          rcases h3 j hj with r | r
          · exact HOq.out.new j r
          · have := Nat.le_trans HBs.out hz.size
            omega
        have HFb : Hid (∀ w3, Below ((w.heap.size + 3) + 1) wq w3 → w3.cell? ⟨(w.heap.size + 3), 0, none⟩ = some (.slice oa (ol).length oc) ∧ w3.frozen? ⟨(w.heap.size + 3), 0, none⟩ = false) := fun w3 hb => by
          have := HOq.out.blk.block (hb.block (w.heap.size + 3) (by omega))
          exact ⟨this.cell 0 _ rfl, this.frozen 0⟩
        have HDm : Hid (Below ((w.heap.size + 3) + 1) wq (wq.alloc (.cells #[.int .i64 m0, .int .u64 m1, .int .i64 m2, .int .i64 m3, .int .i64 m4] 117))) := (show Below _ _ _ from (Below.refl _ _).alloc HBs.out _)
        have g0 := HOq.out.blk.cell 0 _ rfl
        have n0 := (HC.out wq HOq.out.bel).2.2.1.cell 0 _ rfl; have n1 := (HC.out wq HOq.out.bel).2.2.1.cell 1 _ rfl; have n2 := (HC.out wq HOq.out.bel).2.2.1.cell 2 _ rfl; have n3 := (HC.out wq HOq.out.bel).2.2.1.cell 3 _ rfl; have n4 := (HC.out wq HOq.out.bel).2.2.1.cell 4 _ rfl
        go_upto_region 13 with (at_builtin; go_must (refine wpList_append_rows ty30 mc_len (by omega) rfl (.tmp 59) (.tmp 61) rfl _ (ol) rfl (HOq.out.own.alloc _) _ [(⟨m0, m1, m2, m3, m4⟩ : Mb)] rfl (HRm.out wq) (flat_mc_one _) (by have := HOl.out; simp; omega) ?_; intro v3 w3 hr3 hg3 hn3; obtain ⟨a3, q3, hv3, hq3⟩ := slice_of_own hr3; subst hv3; have HP : Hid (OutAt w1 (w3.setCell ⟨w.heap.size + 1 + 1 + 1, 0, none⟩ (.slice a3 (ol.length + 1) q3)) (w.heap.size + 3) e (.slice a3 (ol ++ [(⟨m0, m1, m2, m3, m4⟩ : Mb)]).length q3) (ol ++ [(⟨m0, m1, m2, m3, m4⟩ : Mb)])) := (by have h := HFm.out _ w3 _ HDm.out hr3 hg3 hn3; have hlz : (ol ++ [(⟨m0, m1, m2, m3, m4⟩ : Mb)]).length = ol.length + 1 := (by simp); rw [hlz] at h ⊢; exact h); have f0 := (HFb.out w3 (HFd.out _ w3 HDm.out hg3)).1; have f1 := (HFb.out w3 (HFd.out _ w3 HDm.out hg3)).2; clear hr3 hg3 hn3 hq3))
        have g2 := HP.out.blk.cell 0 _ rfl; have g3 := HP.out.blk.cell 1 _ rfl
        have f4 := (Y2.out _ HP.out.bel).cell 0 _ rfl; have f5 := (Y2.out _ HP.out.bel).cell 1 _ rfl; have f6 := (Y2.out _ HP.out.bel).frozen 0; have f7 := (Y2.out _ HP.out.bel).frozen 1
        clear g0 n0 n1 n2 n3 n4 f0 f1
        generalize w3.setCell ⟨w.heap.size + 1 + 1 + 1, 0, none⟩ (.slice a3 (ol.length + 1) q3) = wp at *
        have hz2 := HZ.out wp _ _ HP.out ⟨_, _, _, rfl⟩
        rw [show (ol ++ [(⟨m0, m1, m2, m3, m4⟩ : Mb)]).length = ol.length + 1 by simp] at hz2
        have HZ2 : Hid (Below w.heap.size w (putS wp (w.heap.size + 2) (.slice a3 (ol.length + 1) q3) e) ∧ RowF mc (putS wp (w.heap.size + 2) (.slice a3 (ol.length + 1) q3) e) (.slice a3 (ol.length + 1) q3) (ol ++ [(⟨m0, m1, m2, m3, m4⟩ : Mb)])) := hz2
        clear hz2
        go_wp2
        refine bodyPost_ret (v := stv (.slice a3 (ol.length + 1) q3) e) ?_ rfl ⟨_, rfl, ?_, (fun j hj => by have := HP.out.new j (by cases a3 <;> first | exact hj | cases hj); omega), HZ2.out.1⟩
        · rw [results_cell1 rfl]
          unfold stv
          go_simp
        · rw [HEnd.out]
          exact HZ2.out.2
      · have f2 := HOq.out.blk.cell 0 _ rfl; have f3 := HOq.out.blk.cell 1 _ rfl
        have f4 := (Y2.out wq HOq.out.bel).cell 0 _ rfl; have f5 := (Y2.out wq HOq.out.bel).cell 1 _ rfl; have f6 := (Y2.out wq HOq.out.bel).frozen 0; have f7 := (Y2.out wq HOq.out.bel).frozen 1
        go_wp2
        refine bodyPost_ret (v := stv (.slice oa ol.length oc) e) ?_ rfl ⟨_, rfl, ?_, (fun j hj => by have := HOq.out.new j hj; omega), (HZ.out wq _ _ HOq.out ⟨_, _, _, rfl⟩).1⟩
        · rw [results_cell1 rfl]
          unfold stv
          go_simp
        · rw [HEnd.out]
          exact (HZ.out wq _ _ HOq.out ⟨_, _, _, rfl⟩).2
end Go.Proofs.YtjbpfhnagiacmaaGreat
