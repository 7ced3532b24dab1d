/-
  The wraps that the program calls right.
-/
import Derived.Test.YtgoghmabhdkdjaaRgt
import Derived.BigQuiet
namespace Go.Proofs.Ytgoghmabhdkdjaa
set_option linter.unusedVariables false
set_option linter.unusedSimpArgs false
set_option synthInstance.maxSize 20000
set_option maxHeartbeats 2000000
set_option maxRecDepth 20000
open Go.RowKit Go.Maps

theorem ws49 {w : World} {v : Value} {qs : List Wq} (hv : RowF wq w v qs) (hr : ∀ q ∈ qs, Rd w q.2 q.1.b) : Calls Try.prog 49 #[v] w fun r w' => r = .returned (.bool (wsB (qs.map (·.1)))) ∧ Below w.heap.size w w' := by
  obtain ⟨av, cap, rfl⟩ := hv.len
  have hcap := hv.caps
  have hc1 : qs.length ≤ cap := hcap.2.1
  have hc2 : cap ≤ 9223372036854775807 := hcap.2.2
  have HV : Hid (∀ w', Below w.heap.size w w' → RowF wq w' (.slice av qs.length cap) qs) := fun w' hb => hv.below hb
  have HR : Hid (∀ q ∈ qs, Rd w q.2 q.1.b) := hr
  obtain ⟨n, hn⟩ : ∃ n, n = qs.length := ⟨_, rfl⟩
  have HN : Hid (n = qs.length) := hn
  have HWB : Hid (wsB (qs.map (·.1)) = (wsF none (qs.map (·.1)) && decide (0 < n))) := (show _ = _ by unfold wsB; rw [List.length_map, hn])
  have HTK : Hid (n ≤ 0 → wsB (qs.map (·.1)) = false) := fun h => by rw [HWB.out, decide_eq_false (by omega), Bool.and_false]
  rw [← hn] at hc1 HV ⊢
  clear hv hcap hn hr
  go_enter Try.func49, Try.ntmps49
  go_wp2
  go_loopw [7] (fun i wr => ∃ k : Nat, i = .int .i64 k ∧ k ≤ n ∧ Hid (wsF none ((qs.map (·.1)).take k) = true) ∧ Hid (Below w.heap.size w wr)) (fun i _ => n - (intOf i).toNat)
  case atStart => exact ⟨0, rfl, by omega, (rfl : wsF none ((qs.map (·.1)).take 0) = true), (show Below _ _ _ from Below.refl _ _)⟩
  case round =>
    obtain ⟨k, rfl, hk, HI, HB⟩ := hrel
    by_cases hki : k < n
    · obtain ⟨q, hq⟩ : ∃ q, qs[k]? = some q := ⟨_, List.getElem?_eq_getElem (by have := HN.out; omega)⟩
      have hq1 : (qs.map (·.1))[k]? = some q.1 := by rw [List.getElem?_map, hq]; rfl
      obtain ⟨b, off, ea, hc⟩ := (HV.out wr HB.out).at wq_len hq
      subst ea
      have hlq := (HR.out q (List.mem_of_getElem? hq)).len
      have HST : Hid (stepB (prevW (qs.map (·.1)) k) q.1 = false → wsB (qs.map (·.1)) = false) := fun h => by rw [HWB.out, wsF_stop hq1 h, Bool.false_and]
      have HGO : Hid (stepB (prevW (qs.map (·.1)) k) q.1 = true → wsF none ((qs.map (·.1)).take (k + 1)) = true) := fun h => by rw [wsF_snoc hq1, HI.out, h]; rfl
      have hpv : (k = 0 ∧ prevW (qs.map (·.1)) k = none) ∨ ∃ (j : Nat) (y : Wq), k = j + 1 ∧ prevW (qs.map (·.1)) k = some y.1.w ∧ qs[j]? = some y := by
        cases k with
        | zero => exact .inl ⟨rfl, rfl⟩
        | succ j =>
          obtain ⟨y, hy⟩ : ∃ y, qs[j]? = some y := ⟨_, List.getElem?_eq_getElem (by have := HN.out; omega)⟩
          exact .inr ⟨j, y, rfl, prevW_succ (by rw [List.getElem?_map, hy]; rfl), hy⟩
      generalize prevW (qs.map (·.1)) k = pv at *
      obtain ⟨⟨x, bs⟩, bv⟩ := q
      dsimp only at hlq
      obtain ⟨ab, cb, rfl⟩ := hlq
      have c0 := hc 0 _ rfl
      have c1 := hc 1 _ rfl
      simp only [Nat.add_zero] at c0
      dsimp only at *
      obtain ⟨bn, hbn⟩ : ∃ bn, bn = bs.length := ⟨_, rfl⟩
      have HBN : Hid (bn = bs.length) := hbn
      rw [← hbn] at c1
      obtain ⟨w1, hw1⟩ : ∃ w1, w1 = wr.alloc (.cells #[.int .i64 x, .slice ab bn cb] 81) := ⟨_, rfl⟩
      have HW1 : Hid (w1 = wr.alloc (.cells #[.int .i64 x, .slice ab bn cb] 81)) := hw1
      have hb1 : Below wr.heap.size wr w1 := by rw [hw1]; exact balloc (Below.refl _ _) _
      have HB1 : Hid (Below w.heap.size w w1.drew) := (show Below _ _ _ from (bnext HB.out hb1).drew)
      have HD : Hid (Below w1.heap.size w1 w1.drew) := (show Below _ _ _ from (Below.refl _ _).drew)
      have X1 : Blk w1 wr.heap.size 81 [.int .i64 x, .slice ab bn cb] := by rw [hw1]; exact blk_new wr _ 81
      have H46 : Hid (∀ w', Calls Try.prog 46 #[.int .i64 x] w' fun r w'' => r = .returned (.bool (whoB x)) ∧ w'' = w') := fun w' => who46 x w'
      have z0 := fun z : WIn (fun w' => Below w1.heap.size w1 w') => (X1.below z.ok).cell 0 _ rfl
      have z1 := fun z : WIn (fun w' => Below w1.heap.size w1 w') => (X1.below z.ok).cell 1 _ rfl
      have HY : Hid (∀ (j : Nat) (y : Wq), k = j + 1 → qs[j]? = some y → ∀ z : WIn (fun w' => Below w1.heap.size w1 w'), z.w.cell? ⟨b, off + j * 2, none⟩ = some (.int .i64 y.1.w)) := fun j y hj hy z => by
        have hb := bnext (bnext HB.out hb1) z.ok
        obtain ⟨b', off', e', hc'⟩ := (HV.out z.w hb).at wq_len hy
        cases e'
        have := hc' 0 _ rfl
        rwa [Nat.add_zero] at this
      have ne : Nonempty (WIn (fun w' => Below w1.heap.size w1 w')) := ⟨⟨w1, Below.refl _ _⟩⟩
      clear hc hq hq1 hw1 hb1 X1 hbn HTK
      have hst : stepB pv ⟨x, bs⟩ = (whoB x && decide (bn = 16) && behB pv x) := by rw [HBN.out]; rfl
      rw [hst] at HST HGO
      clear hst
      cases hwx : whoB x
      · rw [hwx] at HST HGO H46
        have HS2 : Hid (wsB (qs.map (·.1)) = false) := HST.out rfl
        clear hpv HGO HST hwx
        
        go_upto_region 4 with fail
        rw [← HW1.out]
        refine wp_region_ord (C := fun w' => ∃ z : WIn (fun w' => Below w1.heap.size w1 w'), w' = z.w) [(false, 0), (false, 1), (true, 2), (false, 3), (false, 4), (false, 5), (false, 6), (false, 7), (false, 8), (false, 9), (false, 10), (false, 11), (false, 12), (false, 13), (false, 14), (false, 15), (false, 16), (false, 17), (false, 18), (false, 19), (false, 20), (false, 21), (false, 22), (false, 23), (false, 24)] (by kernel_rfl) (by kernel_rfl) ⟨⟨w1.drew, HD.out⟩, rfl⟩ ?_
        iterate 2 (refine ord_still rfl rfl ?_; go_big_quiet_step (exact rfl); refine wpQuiet_nil ?_)
        refine ord_mem rfl rfl ?_
        go_simp
        refine (H46.out w1.drew).mono ?_
        rintro r w2 ⟨rfl, rfl⟩
        refine ⟨⟨⟨w1.drew, HD.out⟩, rfl⟩, ?_⟩
        iterate 22 (refine ord_still rfl rfl ?_; go_big_quiet_step (exact rfl); refine wpQuiet_nil ?_)
        refine ord_end ?_
        go_wp2
        go_ret
        exact ⟨by rw [HS2.out]; rfl, HB1.out⟩
      · rw [hwx] at HST HGO H46
        by_cases h16 : bn = 16
        · subst h16
          rcases hpv with ⟨rfl, rfl⟩ | ⟨j, y, rfl, rfl, hy⟩
          · have HG2 : Hid (wsF none ((qs.map (·.1)).take (0 + 1)) = true) := HGO.out rfl
            clear HGO HST hwx
            simp only [Nat.zero_mul, Nat.add_zero] at c0 c1
            
            go_upto_region 4 with fail
            rw [← HW1.out]
            refine wp_region_ord (C := fun w' => ∃ z : WIn (fun w' => Below w1.heap.size w1 w'), w' = z.w) [(false, 0), (false, 1), (true, 2), (false, 3), (false, 4), (false, 5), (false, 6), (false, 7), (false, 8), (false, 9), (false, 10), (false, 11), (false, 12), (false, 13), (false, 14), (false, 15), (false, 16), (false, 17), (false, 18), (false, 19), (false, 20), (false, 21), (false, 22), (false, 23), (false, 24)] (by kernel_rfl) (by kernel_rfl) ⟨⟨w1.drew, HD.out⟩, rfl⟩ ?_
            iterate 2 (refine ord_still rfl rfl ?_; go_big_quiet_step (exact rfl); refine wpQuiet_nil ?_)
            refine ord_mem rfl rfl ?_
            go_simp
            refine (H46.out w1.drew).mono ?_
            rintro r w2 ⟨rfl, rfl⟩
            refine ⟨⟨⟨w1.drew, HD.out⟩, rfl⟩, ?_⟩
            iterate 22 (refine ord_still rfl rfl ?_; go_big_quiet_step (exact rfl); refine wpQuiet_nil ?_)
            refine ord_end ?_
            go_wp2
            go_roundw
            case rel => exact ⟨0 + 1, by go_num, by omega, HG2.out, HB1.out⟩
            case measure => simp [intOf]; omega
          · have y0 := HY.out j y rfl hy
            have hjn : j < n := by omega
            by_cases hlt : y.1.w < x
            · have HG2 : Hid (wsF none ((qs.map (·.1)).take (j + 1 + 1)) = true) := HGO.out (by simp [behB, hlt])
              clear HGO HST hwx hy
              generalize y.1.w = yw at *
              
              go_upto_region 4 with fail
              rw [← HW1.out]
              refine wp_region_ord (C := fun w' => ∃ z : WIn (fun w' => Below w1.heap.size w1 w'), w' = z.w) [(false, 0), (false, 1), (true, 2), (false, 3), (false, 4), (false, 5), (false, 6), (false, 7), (false, 8), (false, 9), (false, 10), (false, 11), (false, 12), (false, 13), (false, 14), (false, 15), (false, 16), (false, 17), (false, 18), (false, 19), (false, 20), (false, 21), (false, 22), (false, 23), (false, 24)] (by kernel_rfl) (by kernel_rfl) ⟨⟨w1.drew, HD.out⟩, rfl⟩ ?_
              iterate 2 (refine ord_still rfl rfl ?_; go_big_quiet_step (exact rfl); refine wpQuiet_nil ?_)
              refine ord_mem rfl rfl ?_
              go_simp
              refine (H46.out w1.drew).mono ?_
              rintro r w2 ⟨rfl, rfl⟩
              refine ⟨⟨⟨w1.drew, HD.out⟩, rfl⟩, ?_⟩
              iterate 22 (refine ord_still rfl rfl ?_; go_big_quiet_step (exact rfl); refine wpQuiet_nil ?_)
              refine ord_end ?_
              go_wp2
              go_roundw
              case rel => exact ⟨j + 1 + 1, by go_num, by omega, HG2.out, HB1.out⟩
              case measure => simp [intOf]; omega
            · have HS2 : Hid (wsB (qs.map (·.1)) = false) := HST.out (by simp [behB, hlt])
              clear HGO HST hwx hy
              generalize y.1.w = yw at *
              
              go_upto_region 4 with fail
              rw [← HW1.out]
              refine wp_region_ord (C := fun w' => ∃ z : WIn (fun w' => Below w1.heap.size w1 w'), w' = z.w) [(false, 0), (false, 1), (true, 2), (false, 3), (false, 4), (false, 5), (false, 6), (false, 7), (false, 8), (false, 9), (false, 10), (false, 11), (false, 12), (false, 13), (false, 14), (false, 15), (false, 16), (false, 17), (false, 18), (false, 19), (false, 20), (false, 21), (false, 22), (false, 23), (false, 24)] (by kernel_rfl) (by kernel_rfl) ⟨⟨w1.drew, HD.out⟩, rfl⟩ ?_
              iterate 2 (refine ord_still rfl rfl ?_; go_big_quiet_step (exact rfl); refine wpQuiet_nil ?_)
              refine ord_mem rfl rfl ?_
              go_simp
              refine (H46.out w1.drew).mono ?_
              rintro r w2 ⟨rfl, rfl⟩
              refine ⟨⟨⟨w1.drew, HD.out⟩, rfl⟩, ?_⟩
              iterate 22 (refine ord_still rfl rfl ?_; go_big_quiet_step (exact rfl); refine wpQuiet_nil ?_)
              refine ord_end ?_
              go_wp2
              go_ret
              exact ⟨by rw [HS2.out]; rfl, HB1.out⟩
        · have h16' : ((bn : Int) != 16) = true := by simp; omega
          have HS2 : Hid (wsB (qs.map (·.1)) = false) := HST.out (by simp [h16])
          clear hpv HGO HST hwx h16
          
          go_upto_region 4 with fail
          rw [← HW1.out]
          refine wp_region_ord (C := fun w' => ∃ z : WIn (fun w' => Below w1.heap.size w1 w'), w' = z.w) [(false, 0), (false, 1), (true, 2), (false, 3), (false, 4), (false, 5), (false, 6), (false, 7), (false, 8), (false, 9), (false, 10), (false, 11), (false, 12), (false, 13), (false, 14), (false, 15), (false, 16), (false, 17), (false, 18), (false, 19), (false, 20), (false, 21), (false, 22), (false, 23), (false, 24)] (by kernel_rfl) (by kernel_rfl) ⟨⟨w1.drew, HD.out⟩, rfl⟩ ?_
          iterate 2 (refine ord_still rfl rfl ?_; go_big_quiet_step (exact rfl); refine wpQuiet_nil ?_)
          refine ord_mem rfl rfl ?_
          go_simp
          refine (H46.out w1.drew).mono ?_
          rintro r w2 ⟨rfl, rfl⟩
          refine ⟨⟨⟨w1.drew, HD.out⟩, rfl⟩, ?_⟩
          iterate 22 (refine ord_still rfl rfl ?_; go_big_quiet_step (exact rfl); refine wpQuiet_nil ?_)
          refine ord_end ?_
          go_wp2
          go_ret
          exact ⟨by rw [HS2.out]; rfl, HB1.out⟩
    · have HE : Hid (wsB (qs.map (·.1)) = decide (0 < n)) := (show _ = _ by
        have e : (qs.map (·.1)).take k = qs.map (·.1) := List.take_of_length_le (by rw [List.length_map]; have := HN.out; omega)
        have := HI.out
        rw [e] at this
        rw [HWB.out, this, Bool.true_and])
      go_wp2
      go_ret
      refine ⟨?_, HB.out⟩
      rw [HE.out]
      refine ret_bool ?_
      simp
end Go.Proofs.Ytgoghmabhdkdjaa
