/-
  The reference of layer 10: Scan.
-/
import Derived.Test.YtkcighejmjgalaaDoorRef3
namespace Go.Proofs.YtkcighejmjgalaaDoor
set_option linter.unusedVariables false
set_option linter.unusedSimpArgs false
set_option synthInstance.maxSize 20000
set_option maxHeartbeats 4000000
set_option maxRecDepth 20000
open Go.RowKit Go.Maps

theorem scan_gen0 (L : List (List Int)) : scan L 0 = ([], 0) := by
  unfold scan
  refine scanS_none (stand_none.2 fun b n h => ?_)
  obtain ⟨r, h1, h2, _⟩ := h
  exact h2 rfl
theorem num4_cut (s : List Int) (k : Nat) : num4 ((s.drop k).take 4) = num4 (s.drop k) := by
  unfold num4
  simp [List.getD_eq_getElem?_getD, List.getElem?_take]
theorem rscan18 {w : World} {v : Value} {qs : List VB} {gen : Int} (h : RL w v qs) (hl : qs.length ≤ 400) (hg : U32 gen) : Calls Tryd.prog 30 #[v, .int .u32 gen] w fun r w' => ∃ v', r = .returned (.tuple #[v', .int .i64 ((scan (LL qs) gen).2 : Nat), .int .u32 (latest (LL qs) gen)]) ∧ OutL w.heap.size w' v' (scan (LL qs) gen).1 ∧ Below w.heap.size w w' := by
  obtain ⟨a, cap, rfl⟩ := h.len
  have hcap := h.row.caps
  have hm1 : qs.length ≤ cap := hcap.2.1
  have hm2 : cap ≤ 9223372036854775807 := hcap.2.2
  have H : Hid (RL w (.slice a qs.length cap) qs) := h
  obtain ⟨m, hm⟩ : ∃ m, m = qs.length := ⟨_, rfl⟩
  have HM : Hid (m = qs.length) := hm
  rw [← hm] at hl hm1 H ⊢
  clear hcap h hm
  by_cases hg0 : gen = 0
  · subst hg0
    go_enter Tryd.func30, Tryd.ntmps30
    go_wp2
    go_loopw [7, 8] (fun rv tv wr => rv = .slice none 0 0 ∧ tv = .int .i64 0 ∧ Hid (Below w.heap.size w wr)) (fun _ _ _ => 0)
    case atStart => exact ⟨rfl, rfl, Below.refl _ _⟩
    case round =>
      obtain ⟨rfl, rfl, hwz⟩ := hrel
      generalize wr = w4 at *
      have HB4 : Hid (Below w.heap.size w w4) := hwz
      have HOut : Hid (∀ wz, Below w4.heap.size w4 wz → scan (LL qs) 0 = ([], 0) ∧ OutL w.heap.size wz (.slice none 0 0) [] ∧ Below w.heap.size w wz) := fun wz hb => ⟨scan_gen0 _, outL_nil _ _, bnext HB4.out hb⟩
      clear hwz
      go_wp2
      go_loopw [11, 12] (fun rv kv wr => ∃ (k : Nat) (R : Int), k ≤ m ∧ kv = .int .i64 k ∧ rv = .int .u32 R ∧ Hid (R = latest ((LL qs).take k) 0) ∧ Hid (Below w4.heap.size w4 wr)) (fun _ kv _ => m - (intOf kv).toNat)
      case atStart => exact ⟨0, 0, Nat.zero_le _, rfl, rfl, rfl, Below.refl _ _⟩
      case round =>
        obtain ⟨k, R, hk, rfl, rfl, hR, hB⟩ := hrel
        by_cases hlt : k < m
        · obtain ⟨q, hq⟩ : ∃ q, qs[k]? = some q := ⟨_, List.getElem?_eq_getElem (by rw [← HM.out]; exact hlt)⟩
          have hrl := H.out.below (bnext HB4.out hB.out)
          obtain ⟨bb, off, ea, hcell⟩ := hrl.at hq
          have hqr : Rd wr q.1 q.2 := hrl.rd q (List.mem_of_getElem? hq)
          have HJ : Hid (latest ((LL qs).take (k + 1)) 0 = lateS 0 R q.2) := by
            show _ = _
            rw [hR.out, ← latest_snoc]
            congr 1
            have := LL_at hq
            obtain ⟨h1, h2⟩ := List.getElem?_eq_some_iff.1 this
            rw [List.take_succ_eq_append_getElem h1, h2]
          obtain ⟨qv, s⟩ := q
          simp only at hcell hqr HJ
          subst ea
          clear hrl hq
          by_cases h64 : s.length = 64
          · obtain ⟨sb, so, sc, hqv, hs1, hs2, hs3, hs4⟩ := hqr.spot (by omega)
            subst hqv
            have c0 := hs4 0 (by omega)
            rw [Nat.add_zero] at c0
            have hr1 : Rd wr (.slice (some ⟨sb, so + 1, none⟩) 4 (sc - 1)) ((s.drop 1).take 4) := rd_sub (i := 1) (n := 4) hqr (by omega)
            have H40 : Hid (Calls Tryd.prog 59 #[.slice (some ⟨sb, so + 1, none⟩) 4 (sc - 1)] wr fun r w' => r = .returned (.int .u32 (num4 (s.drop 1))) ∧ Below wr.heap.size wr w') := by
              have := rnumber40 hr1 (by rw [List.length_take, List.length_drop]; omega)
              rwa [num4_cut] at this
            rw [h64] at hs1 hcell
            have H40b : Hid (∀ w', Below wr.heap.size wr w' → Calls Tryd.prog 59 #[.slice (some ⟨sb, so + 5, none⟩) 4 (sc - 5)] w' (fun r w'' => r = .returned (.int .u32 (num4 (s.drop 5))) ∧ Below w'.heap.size w' w'') ∧ w'.cell? ⟨bb, off + k, none⟩ = some (.slice (some ⟨sb, so, none⟩) 64 sc)) := fun w' hb => by
              have h5 : Rd w' (.slice (some ⟨sb, so + 5, none⟩) 4 (sc - 5)) ((s.drop 5).take 4) := (rd_sub (i := 5) (n := 4) hqr (by omega)).below hb
              have := rnumber40 h5 (by rw [List.length_take, List.length_drop]; omega)
              rw [num4_cut] at this
              exact ⟨this, (hb.cell (World.block_lt_of_cell? wr _ hcell)).trans hcell⟩
            have HP : Hid (isPart s 0 = (decide (s.getD 0 0 = 197) && decide (num4 (s.drop 1) = 0))) := by
              show _ = _
              unfold isPart
              rw [decide_eq_true h64, Bool.true_and]
            unfold lateS at HJ
            rw [HP.out] at HJ
            generalize s.getD 0 0 = x0 at *
            generalize num4 (s.drop 1) = g1 at *
            generalize num4 (s.drop 5) = g5 at *
            clear hs4 hqr hr1 h64 hs3 HP
            by_cases hx0 : x0 = 197
            · have hx0' : (x0 == 197) = true := by simpa using hx0
              by_cases hg1 : g1 = 0
              · have hg1' : (g1 == 0) = true := by simpa using hg1
                rw [decide_eq_true hx0, decide_eq_true hg1] at HJ
                by_cases hRg : R < g5
                · have HJ2 : Hid (g5 = latest ((LL qs).take (k + 1)) 0) := by
                    show _ = _
                    rw [HJ.out, if_pos (by rfl)]
                    omega
                  clear HJ hx0 hg1
                  go_wp2_with fail
                  refine H40.out.mono ?_
                  rintro r w5 ⟨rfl, hb5⟩
                  obtain ⟨H5, hcell5⟩ := H40b.out w5 hb5
                  have HB5 : Hid (Below w4.heap.size w4 w5) := bnext hB.out hb5
                  clear hb5 hcell c0
                  go_wp2_with fail
                  refine H5.mono ?_
                  rintro r w6 ⟨rfl, hb6⟩
                  have HB6 : Hid (Below w4.heap.size w4 w6) := bnext HB5.out hb6
                  clear hb6 H5
                  go_wp2
                  go_roundw
                  case rel => exact ⟨k + 1, _, by omega, by go_num, rfl, HJ2, HB6⟩
                  case measure => simp [intOf]; omega
                · have HJ2 : Hid (R = latest ((LL qs).take (k + 1)) 0) := by
                    show _ = _
                    rw [HJ.out, if_pos (by rfl)]
                    omega
                  clear HJ hx0 hg1
                  go_wp2_with fail
                  refine H40.out.mono ?_
                  rintro r w5 ⟨rfl, hb5⟩
                  obtain ⟨H5, hcell5⟩ := H40b.out w5 hb5
                  have HB5 : Hid (Below w4.heap.size w4 w5) := bnext hB.out hb5
                  clear hb5 hcell c0
                  go_wp2_with fail
                  refine H5.mono ?_
                  rintro r w6 ⟨rfl, hb6⟩
                  have HB6 : Hid (Below w4.heap.size w4 w6) := bnext HB5.out hb6
                  clear hb6 H5
                  go_wp2
                  go_roundw
                  case rel => exact ⟨k + 1, _, by omega, by go_num, rfl, HJ2, HB6⟩
                  case measure => simp [intOf]; omega
              · have hg1' : (g1 == 0) = false := by simpa using hg1
                rw [decide_eq_true hx0, decide_eq_false hg1] at HJ
                have HJ2 : Hid (R = latest ((LL qs).take (k + 1)) 0) := HJ.out.symm
                clear HJ hx0 hg1
                go_wp2_with fail
                refine H40.out.mono ?_
                rintro r w5 ⟨rfl, hb5⟩
                have HB5 : Hid (Below w4.heap.size w4 w5) := bnext hB.out hb5
                clear hb5 hcell c0
                go_wp2
                go_roundw
                case rel => exact ⟨k + 1, _, by omega, by go_num, rfl, HJ2, HB5⟩
                case measure => simp [intOf]; omega
            · have hx0' : (x0 == 197) = false := by simpa using hx0
              rw [decide_eq_false hx0] at HJ
              have HJ2 : Hid (R = latest ((LL qs).take (k + 1)) 0) := HJ.out.symm
              clear HJ hx0
              go_wp2
              go_roundw
              case rel => exact ⟨k + 1, _, by omega, by go_num, rfl, HJ2, hB⟩
              case measure => simp [intOf]; omega
          · have HP : Hid (isPart s 0 = false) := by
              show _ = _
              unfold isPart
              rw [decide_eq_false h64, Bool.false_and, Bool.false_and]
            unfold lateS at HJ
            rw [HP.out] at HJ
            have HJ2 : Hid (R = latest ((LL qs).take (k + 1)) 0) := HJ.out.symm
            have h64' : ((s.length : Int) == 64) = false := by simp; omega
            obtain ⟨sa, sc, hqv⟩ := hqr.len
            subst hqv
            generalize s.length = sl at *
            clear hqr h64 HJ
            go_wp2
            go_roundw
            case rel => exact ⟨k + 1, _, by omega, by go_num, rfl, HJ2, hB⟩
            case measure => simp [intOf]; omega
        · obtain rfl : k = m := by omega
          have HE : Hid (R = latest (LL qs) 0) := by
            show _ = _
            rw [hR.out, List.take_of_length_le (by rw [LL_len, HM.out]; exact Nat.le_refl _)]
          obtain ⟨o1, o2, o3⟩ := HOut.out _ hB.out
          have O1 : Hid _ := o1
          have O2 : Hid _ := o2
          have O3 : Hid _ := o3
          clear o1 o2 o3
          go_wp2
          rw [O1.out, ← HE.out]
          refine bodyPost_ret (results_tmp3 rfl _ _ _) rfl ⟨_, rfl, O2.out, O3.out⟩
  · have hg0' : (gen != 0) = true := by simpa using hg0
    clear hg0
    go_enter Tryd.func30, Tryd.ntmps30
    go_wp2
    go_loopw [7, 8] (fun rv tv wr => ∃ (rs : List VB) (t : Nat) (ra : Option Addr) (rc : Nat), rv = .slice ra rs.length rc ∧ tv = .int .i64 t ∧ Hid (Fnd w (LL qs) gen wr (.slice ra rs.length rc) rs t)) (fun _ tv _ => m - (intOf tv).toNat)
    case atStart => exact ⟨[], 0, none, 0, rfl, rfl, fnd_zero _ _ _⟩
    case round =>
      obtain ⟨rs, t, ra, rc, rfl, rfl, hF⟩ := hrel
      have hlen := hF.out.len
      rw [LL_len, ← HM.out] at hlen
      obtain ⟨ht1, ht2⟩ := hlen
      obtain ⟨n, hn⟩ : ∃ n, n = rs.length := ⟨_, rfl⟩
      have HN : Hid (n = rs.length) := hn
      rw [← hn] at ht2
      have hrl := H.out.below hF.out.bel
      have hrc := slice_of_own hF.out.rcs.own
      by_cases hct : cap = t
      · have hd := rl_drop0 (s := t) (a := a) (w := wr) (qs := qs) (by rw [← hct, ← HM.out]; exact hrl) (by rw [← HM.out]; exact ht1)
        have hst := rstands39 (gen := gen) (seq := (n : Int)) hd (by rw [List.length_drop, ← HM.out]; omega) hg (by unfold U32; omega)
        rw [LL_drop] at hst
        have HST : Hid (Calls Tryd.prog 58 #[.slice a 0 0, .int .u32 gen, .int .u32 (n : Int)] wr fun r w' => ∃ v', r = .returned (.tuple #[v', .int .i64 ((stand ((LL qs).drop t) gen n).2 : Nat)]) ∧ OutR wr.heap.size w' v' (stand ((LL qs).drop t) gen n).1 ∧ Below wr.heap.size wr w') := hst
        have hct' := hct.symm
        subst hct'
        rw [← hn]
        clear hd hst hrl hn
        obtain ⟨ra', rc', hra, hrc1, hrc2⟩ := hrc
        obtain ⟨rfl, rfl⟩ : ra = ra' ∧ rc = rc' := by simpa using hra
        clear hra
        by_cases h0 : (stand ((LL qs).drop t) gen n).2 = 0
        · rw [h0] at HST
          have HO : Hid (∀ wz, Below wr.heap.size wr wz → scan (LL qs) gen = (LL rs, t) ∧ OutL w.heap.size wz (.slice ra rs.length rc) (LL rs) ∧ Below w.heap.size w wz) := fun wz hb => hF.out.out (by rw [← HN.out]; exact h0) hb
          rw [← HN.out] at HO hrc1
          have HBel : Hid (Below w.heap.size w wr) := hF.out.bel
          clear h0
          go_wp2_with (go_at_call 58; go_must (refine HST.out.mono ?_; rintro r w4 ⟨v2, rfl, ho2, hb2⟩; obtain ⟨a2, c2, hv2⟩ := ho2.1.len; subst hv2; have HB4 : Hid (Below w.heap.size w w4) := bnext HBel.out hb2; have HOut : Hid (∀ wz, Below w4.heap.size w4 wz → scan (LL qs) gen = (LL rs, t) ∧ OutL w.heap.size wz (.slice ra n rc) (LL rs) ∧ Below w.heap.size w wz) := fun wz hz => HO.out wz (bnext hb2 hz); clear ho2 hb2))
          clear HST HO hF HBel
          generalize wr = wo at *
          go_loopw [11, 12] (fun rv kv wr => ∃ (k : Nat) (R : Int), k ≤ m ∧ kv = .int .i64 k ∧ rv = .int .u32 R ∧ Hid (R = latest ((LL qs).take k) gen) ∧ Hid (Below w4.heap.size w4 wr)) (fun _ kv _ => m - (intOf kv).toNat)
          case atStart => exact ⟨0, 0, Nat.zero_le _, rfl, rfl, rfl, Below.refl _ _⟩
          case round =>
            obtain ⟨k, R, hk, rfl, rfl, hR, hB⟩ := hrel
            by_cases hlt : k < m
            · obtain ⟨q, hq⟩ : ∃ q, qs[k]? = some q := ⟨_, List.getElem?_eq_getElem (by rw [← HM.out]; exact hlt)⟩
              have hrl := H.out.below (bnext HB4.out hB.out)
              obtain ⟨bb, off, ea, hcell⟩ := hrl.at hq
              have hqr : Rd wr q.1 q.2 := hrl.rd q (List.mem_of_getElem? hq)
              have HJ : Hid (latest ((LL qs).take (k + 1)) gen = lateS gen R q.2) := by
                show _ = _
                rw [hR.out, ← latest_snoc]
                congr 1
                have := LL_at hq
                obtain ⟨h1, h2⟩ := List.getElem?_eq_some_iff.1 this
                rw [List.take_succ_eq_append_getElem h1, h2]
              obtain ⟨qv, s⟩ := q
              simp only at hcell hqr HJ
              subst ea
              clear hrl hq
              by_cases h64 : s.length = 64
              · obtain ⟨sb, so, sc, hqv, hs1, hs2, hs3, hs4⟩ := hqr.spot (by omega)
                subst hqv
                have c0 := hs4 0 (by omega)
                rw [Nat.add_zero] at c0
                have hr1 : Rd wr (.slice (some ⟨sb, so + 1, none⟩) 4 (sc - 1)) ((s.drop 1).take 4) := rd_sub (i := 1) (n := 4) hqr (by omega)
                have H40 : Hid (Calls Tryd.prog 59 #[.slice (some ⟨sb, so + 1, none⟩) 4 (sc - 1)] wr fun r w' => r = .returned (.int .u32 (num4 (s.drop 1))) ∧ Below wr.heap.size wr w') := by
                  have := rnumber40 hr1 (by rw [List.length_take, List.length_drop]; omega)
                  rwa [num4_cut] at this
                rw [h64] at hs1 hcell
                have H40b : Hid (∀ w', Below wr.heap.size wr w' → Calls Tryd.prog 59 #[.slice (some ⟨sb, so + 5, none⟩) 4 (sc - 5)] w' (fun r w'' => r = .returned (.int .u32 (num4 (s.drop 5))) ∧ Below w'.heap.size w' w'') ∧ w'.cell? ⟨bb, off + k, none⟩ = some (.slice (some ⟨sb, so, none⟩) 64 sc)) := fun w' hb => by
                  have h5 : Rd w' (.slice (some ⟨sb, so + 5, none⟩) 4 (sc - 5)) ((s.drop 5).take 4) := (rd_sub (i := 5) (n := 4) hqr (by omega)).below hb
                  have := rnumber40 h5 (by rw [List.length_take, List.length_drop]; omega)
                  rw [num4_cut] at this
                  exact ⟨this, (hb.cell (World.block_lt_of_cell? wr _ hcell)).trans hcell⟩
                have HP : Hid (isPart s gen = (decide (s.getD 0 0 = 197) && decide (num4 (s.drop 1) = gen))) := by
                  show _ = _
                  unfold isPart
                  rw [decide_eq_true h64, Bool.true_and]
                unfold lateS at HJ
                rw [HP.out] at HJ
                generalize s.getD 0 0 = x0 at *
                generalize num4 (s.drop 1) = g1 at *
                generalize num4 (s.drop 5) = g5 at *
                clear hs4 hqr hr1 h64 hs3 HP
                by_cases hx0 : x0 = 197
                · have hx0' : (x0 == 197) = true := by simpa using hx0
                  by_cases hg1 : g1 = gen
                  · have hg1' : (g1 == gen) = true := by simpa using hg1
                    rw [decide_eq_true hx0, decide_eq_true hg1] at HJ
                    by_cases hRg : R < g5
                    · have HJ2 : Hid (g5 = latest ((LL qs).take (k + 1)) gen) := by
                        show _ = _
                        rw [HJ.out, if_pos (by rfl)]
                        omega
                      clear HJ hx0 hg1
                      go_wp2_with fail
                      refine H40.out.mono ?_
                      rintro r w5 ⟨rfl, hb5⟩
                      obtain ⟨H5, hcell5⟩ := H40b.out w5 hb5
                      have HB5 : Hid (Below w4.heap.size w4 w5) := bnext hB.out hb5
                      clear hb5 hcell c0
                      go_wp2_with fail
                      refine H5.mono ?_
                      rintro r w6 ⟨rfl, hb6⟩
                      have HB6 : Hid (Below w4.heap.size w4 w6) := bnext HB5.out hb6
                      clear hb6 H5
                      go_wp2
                      go_roundw
                      case rel => exact ⟨k + 1, _, by omega, by go_num, rfl, HJ2, HB6⟩
                      case measure => simp [intOf]; omega
                    · have HJ2 : Hid (R = latest ((LL qs).take (k + 1)) gen) := by
                        show _ = _
                        rw [HJ.out, if_pos (by rfl)]
                        omega
                      clear HJ hx0 hg1
                      go_wp2_with fail
                      refine H40.out.mono ?_
                      rintro r w5 ⟨rfl, hb5⟩
                      obtain ⟨H5, hcell5⟩ := H40b.out w5 hb5
                      have HB5 : Hid (Below w4.heap.size w4 w5) := bnext hB.out hb5
                      clear hb5 hcell c0
                      go_wp2_with fail
                      refine H5.mono ?_
                      rintro r w6 ⟨rfl, hb6⟩
                      have HB6 : Hid (Below w4.heap.size w4 w6) := bnext HB5.out hb6
                      clear hb6 H5
                      go_wp2
                      go_roundw
                      case rel => exact ⟨k + 1, _, by omega, by go_num, rfl, HJ2, HB6⟩
                      case measure => simp [intOf]; omega
                  · have hg1' : (g1 == gen) = false := by simpa using hg1
                    rw [decide_eq_true hx0, decide_eq_false hg1] at HJ
                    have HJ2 : Hid (R = latest ((LL qs).take (k + 1)) gen) := HJ.out.symm
                    clear HJ hx0 hg1
                    go_wp2_with fail
                    refine H40.out.mono ?_
                    rintro r w5 ⟨rfl, hb5⟩
                    have HB5 : Hid (Below w4.heap.size w4 w5) := bnext hB.out hb5
                    clear hb5 hcell c0
                    go_wp2
                    go_roundw
                    case rel => exact ⟨k + 1, _, by omega, by go_num, rfl, HJ2, HB5⟩
                    case measure => simp [intOf]; omega
                · have hx0' : (x0 == 197) = false := by simpa using hx0
                  rw [decide_eq_false hx0] at HJ
                  have HJ2 : Hid (R = latest ((LL qs).take (k + 1)) gen) := HJ.out.symm
                  clear HJ hx0
                  go_wp2
                  go_roundw
                  case rel => exact ⟨k + 1, _, by omega, by go_num, rfl, HJ2, hB⟩
                  case measure => simp [intOf]; omega
              · have HP : Hid (isPart s gen = false) := by
                  show _ = _
                  unfold isPart
                  rw [decide_eq_false h64, Bool.false_and, Bool.false_and]
                unfold lateS at HJ
                rw [HP.out] at HJ
                have HJ2 : Hid (R = latest ((LL qs).take (k + 1)) gen) := HJ.out.symm
                have h64' : ((s.length : Int) == 64) = false := by simp; omega
                obtain ⟨sa, sc, hqv⟩ := hqr.len
                subst hqv
                generalize s.length = sl at *
                clear hqr h64 HJ
                go_wp2
                go_roundw
                case rel => exact ⟨k + 1, _, by omega, by go_num, rfl, HJ2, hB⟩
                case measure => simp [intOf]; omega
            · obtain rfl : k = m := by omega
              have HE : Hid (R = latest (LL qs) gen) := by
                show _ = _
                rw [hR.out, List.take_of_length_le (by rw [LL_len, HM.out]; exact Nat.le_refl _)]
              obtain ⟨o1, o2, o3⟩ := HOut.out _ hB.out
              have O1 : Hid _ := o1
              have O2 : Hid _ := o2
              have O3 : Hid _ := o3
              clear o1 o2 o3
              go_wp2
              rw [O1.out, ← HE.out]
              refine bodyPost_ret (results_tmp3 rfl _ _ _) rfl ⟨_, rfl, O2.out, O3.out⟩
        · obtain ⟨sn, hsn⟩ : ∃ sn, sn = (stand ((LL qs).drop t) gen n).2 := ⟨_, rfl⟩
          have hsl : sn ≤ m - t := by
            have := (stand_some h0).le
            rw [List.length_drop, LL_len, ← HM.out, ← hsn] at this
            exact this
          have hs0 : ((sn : Int) == 0) = false := by rw [hsn]; simpa using h0
          have hs1 : 0 < sn := by omega
          exfalso
          omega
      · have hd := rl_drop (s := t) (qs := qs) (a := a) (cap := cap) (w := wr) (by rw [← HM.out]; exact hrl) (by rw [← HM.out]; exact ht1) hct
        have hst := rstands39 (gen := gen) (seq := (n : Int)) hd (by rw [List.length_drop, ← HM.out]; omega) hg (by unfold U32; omega)
        rw [LL_drop, ← HM.out] at hst
        have HST : Hid (Calls Tryd.prog 58 #[.slice (Option.map (fun x => x.add t) a) (m - t) (cap - t), .int .u32 gen, .int .u32 (n : Int)] wr fun r w' => ∃ v', r = .returned (.tuple #[v', .int .i64 ((stand ((LL qs).drop t) gen n).2 : Nat)]) ∧ OutR wr.heap.size w' v' (stand ((LL qs).drop t) gen n).1 ∧ Below wr.heap.size wr w') := hst
        rw [← hn]
        clear hd hst hrl hn
        obtain ⟨ra', rc', hra, hrc1, hrc2⟩ := hrc
        obtain ⟨rfl, rfl⟩ : ra = ra' ∧ rc = rc' := by simpa using hra
        clear hra
        by_cases h0 : (stand ((LL qs).drop t) gen n).2 = 0
        · rw [h0] at HST
          have HO : Hid (∀ wz, Below wr.heap.size wr wz → scan (LL qs) gen = (LL rs, t) ∧ OutL w.heap.size wz (.slice ra rs.length rc) (LL rs) ∧ Below w.heap.size w wz) := fun wz hb => hF.out.out (by rw [← HN.out]; exact h0) hb
          rw [← HN.out] at HO hrc1
          have HBel : Hid (Below w.heap.size w wr) := hF.out.bel
          clear h0
          go_wp2_with (go_at_call 58; go_must (refine HST.out.mono ?_; rintro r w4 ⟨v2, rfl, ho2, hb2⟩; obtain ⟨a2, c2, hv2⟩ := ho2.1.len; subst hv2; have HB4 : Hid (Below w.heap.size w w4) := bnext HBel.out hb2; have HOut : Hid (∀ wz, Below w4.heap.size w4 wz → scan (LL qs) gen = (LL rs, t) ∧ OutL w.heap.size wz (.slice ra n rc) (LL rs) ∧ Below w.heap.size w wz) := fun wz hz => HO.out wz (bnext hb2 hz); clear ho2 hb2))
          clear HST HO hF HBel
          generalize wr = wo at *
          generalize Option.map (fun x => Addr.add x t) a = dm at *
          go_loopw [11, 12] (fun rv kv wr => ∃ (k : Nat) (R : Int), k ≤ m ∧ kv = .int .i64 k ∧ rv = .int .u32 R ∧ Hid (R = latest ((LL qs).take k) gen) ∧ Hid (Below w4.heap.size w4 wr)) (fun _ kv _ => m - (intOf kv).toNat)
          case atStart => exact ⟨0, 0, Nat.zero_le _, rfl, rfl, rfl, Below.refl _ _⟩
          case round =>
            obtain ⟨k, R, hk, rfl, rfl, hR, hB⟩ := hrel
            by_cases hlt : k < m
            · obtain ⟨q, hq⟩ : ∃ q, qs[k]? = some q := ⟨_, List.getElem?_eq_getElem (by rw [← HM.out]; exact hlt)⟩
              have hrl := H.out.below (bnext HB4.out hB.out)
              obtain ⟨bb, off, ea, hcell⟩ := hrl.at hq
              have hqr : Rd wr q.1 q.2 := hrl.rd q (List.mem_of_getElem? hq)
              have HJ : Hid (latest ((LL qs).take (k + 1)) gen = lateS gen R q.2) := by
                show _ = _
                rw [hR.out, ← latest_snoc]
                congr 1
                have := LL_at hq
                obtain ⟨h1, h2⟩ := List.getElem?_eq_some_iff.1 this
                rw [List.take_succ_eq_append_getElem h1, h2]
              obtain ⟨qv, s⟩ := q
              simp only at hcell hqr HJ
              subst ea
              clear hrl hq
              by_cases h64 : s.length = 64
              · obtain ⟨sb, so, sc, hqv, hs1, hs2, hs3, hs4⟩ := hqr.spot (by omega)
                subst hqv
                have c0 := hs4 0 (by omega)
                rw [Nat.add_zero] at c0
                have hr1 : Rd wr (.slice (some ⟨sb, so + 1, none⟩) 4 (sc - 1)) ((s.drop 1).take 4) := rd_sub (i := 1) (n := 4) hqr (by omega)
                have H40 : Hid (Calls Tryd.prog 59 #[.slice (some ⟨sb, so + 1, none⟩) 4 (sc - 1)] wr fun r w' => r = .returned (.int .u32 (num4 (s.drop 1))) ∧ Below wr.heap.size wr w') := by
                  have := rnumber40 hr1 (by rw [List.length_take, List.length_drop]; omega)
                  rwa [num4_cut] at this
                rw [h64] at hs1 hcell
                have H40b : Hid (∀ w', Below wr.heap.size wr w' → Calls Tryd.prog 59 #[.slice (some ⟨sb, so + 5, none⟩) 4 (sc - 5)] w' (fun r w'' => r = .returned (.int .u32 (num4 (s.drop 5))) ∧ Below w'.heap.size w' w'') ∧ w'.cell? ⟨bb, off + k, none⟩ = some (.slice (some ⟨sb, so, none⟩) 64 sc)) := fun w' hb => by
                  have h5 : Rd w' (.slice (some ⟨sb, so + 5, none⟩) 4 (sc - 5)) ((s.drop 5).take 4) := (rd_sub (i := 5) (n := 4) hqr (by omega)).below hb
                  have := rnumber40 h5 (by rw [List.length_take, List.length_drop]; omega)
                  rw [num4_cut] at this
                  exact ⟨this, (hb.cell (World.block_lt_of_cell? wr _ hcell)).trans hcell⟩
                have HP : Hid (isPart s gen = (decide (s.getD 0 0 = 197) && decide (num4 (s.drop 1) = gen))) := by
                  show _ = _
                  unfold isPart
                  rw [decide_eq_true h64, Bool.true_and]
                unfold lateS at HJ
                rw [HP.out] at HJ
                generalize s.getD 0 0 = x0 at *
                generalize num4 (s.drop 1) = g1 at *
                generalize num4 (s.drop 5) = g5 at *
                clear hs4 hqr hr1 h64 hs3 HP
                by_cases hx0 : x0 = 197
                · have hx0' : (x0 == 197) = true := by simpa using hx0
                  by_cases hg1 : g1 = gen
                  · have hg1' : (g1 == gen) = true := by simpa using hg1
                    rw [decide_eq_true hx0, decide_eq_true hg1] at HJ
                    by_cases hRg : R < g5
                    · have HJ2 : Hid (g5 = latest ((LL qs).take (k + 1)) gen) := by
                        show _ = _
                        rw [HJ.out, if_pos (by rfl)]
                        omega
                      clear HJ hx0 hg1
                      go_wp2_with fail
                      refine H40.out.mono ?_
                      rintro r w5 ⟨rfl, hb5⟩
                      obtain ⟨H5, hcell5⟩ := H40b.out w5 hb5
                      have HB5 : Hid (Below w4.heap.size w4 w5) := bnext hB.out hb5
                      clear hb5 hcell c0
                      go_wp2_with fail
                      refine H5.mono ?_
                      rintro r w6 ⟨rfl, hb6⟩
                      have HB6 : Hid (Below w4.heap.size w4 w6) := bnext HB5.out hb6
                      clear hb6 H5
                      go_wp2
                      go_roundw
                      case rel => exact ⟨k + 1, _, by omega, by go_num, rfl, HJ2, HB6⟩
                      case measure => simp [intOf]; omega
                    · have HJ2 : Hid (R = latest ((LL qs).take (k + 1)) gen) := by
                        show _ = _
                        rw [HJ.out, if_pos (by rfl)]
                        omega
                      clear HJ hx0 hg1
                      go_wp2_with fail
                      refine H40.out.mono ?_
                      rintro r w5 ⟨rfl, hb5⟩
                      obtain ⟨H5, hcell5⟩ := H40b.out w5 hb5
                      have HB5 : Hid (Below w4.heap.size w4 w5) := bnext hB.out hb5
                      clear hb5 hcell c0
                      go_wp2_with fail
                      refine H5.mono ?_
                      rintro r w6 ⟨rfl, hb6⟩
                      have HB6 : Hid (Below w4.heap.size w4 w6) := bnext HB5.out hb6
                      clear hb6 H5
                      go_wp2
                      go_roundw
                      case rel => exact ⟨k + 1, _, by omega, by go_num, rfl, HJ2, HB6⟩
                      case measure => simp [intOf]; omega
                  · have hg1' : (g1 == gen) = false := by simpa using hg1
                    rw [decide_eq_true hx0, decide_eq_false hg1] at HJ
                    have HJ2 : Hid (R = latest ((LL qs).take (k + 1)) gen) := HJ.out.symm
                    clear HJ hx0 hg1
                    go_wp2_with fail
                    refine H40.out.mono ?_
                    rintro r w5 ⟨rfl, hb5⟩
                    have HB5 : Hid (Below w4.heap.size w4 w5) := bnext hB.out hb5
                    clear hb5 hcell c0
                    go_wp2
                    go_roundw
                    case rel => exact ⟨k + 1, _, by omega, by go_num, rfl, HJ2, HB5⟩
                    case measure => simp [intOf]; omega
                · have hx0' : (x0 == 197) = false := by simpa using hx0
                  rw [decide_eq_false hx0] at HJ
                  have HJ2 : Hid (R = latest ((LL qs).take (k + 1)) gen) := HJ.out.symm
                  clear HJ hx0
                  go_wp2
                  go_roundw
                  case rel => exact ⟨k + 1, _, by omega, by go_num, rfl, HJ2, hB⟩
                  case measure => simp [intOf]; omega
              · have HP : Hid (isPart s gen = false) := by
                  show _ = _
                  unfold isPart
                  rw [decide_eq_false h64, Bool.false_and, Bool.false_and]
                unfold lateS at HJ
                rw [HP.out] at HJ
                have HJ2 : Hid (R = latest ((LL qs).take (k + 1)) gen) := HJ.out.symm
                have h64' : ((s.length : Int) == 64) = false := by simp; omega
                obtain ⟨sa, sc, hqv⟩ := hqr.len
                subst hqv
                generalize s.length = sl at *
                clear hqr h64 HJ
                go_wp2
                go_roundw
                case rel => exact ⟨k + 1, _, by omega, by go_num, rfl, HJ2, hB⟩
                case measure => simp [intOf]; omega
            · obtain rfl : k = m := by omega
              have HE : Hid (R = latest (LL qs) gen) := by
                show _ = _
                rw [hR.out, List.take_of_length_le (by rw [LL_len, HM.out]; exact Nat.le_refl _)]
              obtain ⟨o1, o2, o3⟩ := HOut.out _ hB.out
              have O1 : Hid _ := o1
              have O2 : Hid _ := o2
              have O3 : Hid _ := o3
              clear o1 o2 o3
              go_wp2
              rw [O1.out, ← HE.out]
              refine bodyPost_ret (results_tmp3 rfl _ _ _) rfl ⟨_, rfl, O2.out, O3.out⟩
        · obtain ⟨sn, hsn⟩ : ∃ sn, sn = (stand ((LL qs).drop t) gen n).2 := ⟨_, rfl⟩
          have hsl : sn ≤ m - t := by
            have := (stand_some h0).le
            rw [List.length_drop, LL_len, ← HM.out, ← hsn] at this
            exact this
          have hs0 : ((sn : Int) == 0) = false := by rw [hsn]; simpa using h0
          have hs1 : 0 < sn := by omega
          rw [← hsn] at HST
          have HMore : Hid (∀ w1 w3 v' ev, Below wr.heap.size wr w1 → OutR wr.heap.size w1 ev (stand ((LL qs).drop t) gen n).1 → w3.ownsRow 0 30 1 v' (rs ++ [(ev, (stand ((LL qs).drop t) gen n).1)]).length (flat lc (rs ++ [(ev, (stand ((LL qs).drop t) gen n).1)])) → (w1.alloc (.cells #[ev] 30)).grownBy w3 (Value.slice ra n rc).ownBlock → (∀ j, v'.ownBlock = some j → (Value.slice ra n rc).ownBlock = some j ∨ (w1.alloc (.cells #[ev] 30)).heap.size ≤ j) → Fnd w (LL qs) gen w3 v' (rs ++ [(ev, (stand ((LL qs).drop t) gen n).1)]) (t + sn)) := fun w1 w3 v' ev hb he k1 k2 k3 => by
            rw [hsn]
            rw [HN.out] at he k1 k2 k3 ⊢
            exact hF.out.more (by rw [← HN.out]; exact h0) hb he k1 k2 k3
          have HOwn : Hid (∀ w1, Below wr.heap.size wr w1 → w1.ownsRow 0 30 1 (.slice ra n rc) rs.length (flat lc rs)) := fun w1 hb => by rw [HN.out]; exact (hF.out.rcs.below hb).own
          rw [← HN.out] at hrc1
          have hrs : rs.length ≤ 400 := by rw [← HN.out]; omega
          have HRS : Hid (rs.length ≤ 400) := hrs
          generalize (stand ((LL qs).drop t) gen n).1 = sb at *
          clear h0 hsn hrs
          go_wp2_with (first
            | (go_at_call 58; go_must (refine HST.out.mono ?_; rintro r w2 ⟨v2, rfl, ho2, hb2⟩; obtain ⟨a2, c2, hv2⟩ := ho2.1.len; subst hv2; have HB2 : Hid (Below wr.heap.size wr w2) := hb2; have HO2 : Hid (OutR wr.heap.size w2 (.slice a2 sb.length c2) sb) := ho2; have HRow2 : Hid ((w2.alloc (.cells #[.slice a2 sb.length c2] 30)).ownsRow 0 30 1 (.slice ra n rc) rs.length (flat lc rs)) := (HOwn.out w2 hb2).alloc _; clear ho2 hb2))
            | (at_builtin; go_must (refine wpList_append_rows ty25 lc_len (by omega) rfl (.tmp 28) (.tmp 30) rfl _ rs rfl HRow2.out _ [(.slice a2 sb.length c2, sb)] rfl (rowF_one (f := lc) w2 (.slice a2 sb.length c2, sb) 30) (flat_lc_one _ (fun q hq => by simp at hq; subst hq; rfl)) (by have := HRS.out; simp; omega) ?_; intro v3 w3 k1 k2 k3; have HF3 : Hid (Fnd w (LL qs) gen w3 v3 (rs ++ [(.slice a2 sb.length c2, sb)]) (t + sn)) := HMore.out w2 w3 v3 _ HB2.out HO2.out k1 k2 k3; obtain ⟨a3, c3, hv3, hc31, hc32⟩ := slice_of_own k1; subst hv3; clear k1 k2 k3)))
          go_roundw
          case rel => exact ⟨rs ++ [(.slice a2 sb.length c2, sb)], t + sn, a3, c3, by simp, by go_num, HF3⟩
          case measure => simp [intOf]; omega
end Go.Proofs.YtkcighejmjgalaaDoor
