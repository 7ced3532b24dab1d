/-
  The law OpOrder, walked.
-/
import Derived.Test.YtcchokedfbogfaaLst
import Derived.Test.YtcchokedfbogfaaLgt
import Derived.Test.YtcchokedfbogfaaArgO
import Derived.Test.YtcchokedfbogfaaAlv
namespace Go.Proofs.Ytcchokedfbogfaa
set_option linter.unusedVariables false
set_option linter.unusedSimpArgs false
set_option synthInstance.maxSize 20000
set_option maxHeartbeats 2000000
set_option maxRecDepth 20000
open Go.RowKit Go.Maps

theorem light_few {l : List OpT} (h : lightB l 60 = true) : l.length ≤ 60 := by
  unfold lightB at h
  simp only [Bool.and_eq_true, decide_eq_true_eq] at h
  omega
theorem light_short {l : List OpT} {w : World} (hi : ∀ q ∈ l, QIn w q) (h : lightB l 60 = true) : ∀ q ∈ l, q.b.length ≤ 1000000 := fun q hq => by
  unfold lightB at h
  simp only [Bool.and_eq_true, List.all_eq_true] at h
  have h1 := h.2 q hq
  unfold okO at h1
  have h2 := of_decide_eq_true h1
  have h3 := (show Rd w (.slice q.va q.vn q.vc) q.b from (hi q hq).rd).cap.1
  omega
theorem pair_cases (x y : S) : x = y ∨ (x.1 == y.1) = false ∨ (x.1 = y.1 ∧ (x.2 == y.2) = false) := by
  obtain ⟨a, b⟩ := x
  obtain ⟨c, d⟩ := y
  simp only [Prod.mk.injEq, beq_eq_false_iff_ne, ne_eq]
  omega
theorem any_take_more {l : List OpT} {i : Nat} {x : OpT} {f : OpT → Bool} (hx : l[i]? = some x) : (l.take (i + 1)).any f = ((l.take i).any f || f x) := by
  obtain ⟨hi, rfl⟩ := List.getElem?_eq_some_iff.1 hx
  rw [List.take_succ_eq_append_getElem hi, List.any_append]
  simp
theorem Srtd.from_ {l l' z : List OpT} {w' : World} {v' : Value} (h : Srtd l w' v' l' z) {q : OpT} (hq : q ∈ l') : ∃ q' ∈ l, bare q' = bare q := by
  have h1 : bare q ∈ l'.map bare := List.mem_map.2 ⟨q, hq, rfl⟩
  rw [h.alike] at h1
  obtain ⟨q', h2, h3⟩ := List.mem_map.1 h1
  exact ⟨q', keep_mem h.keep (firstsO_mem z q' h2), h3⟩
set_option maxHeartbeats 4000000 in
theorem order7 (v : Value) (l : List OpT) (w : World) (hv : RowF oc w v l) (hi : ∀ q ∈ l, QIn w q) :
    Calls Try.prog 7 #[v] w fun e w' => e = .returned (.bool true) ∧ Below w.heap.size w w' := by
  have HAL : Hid (∀ w', Calls Try.prog 9 #[] w' fun e w'' => e = .returned (.bool true) ∧ Below w'.heap.size w' w'') := fun w' => alive9 w'
  obtain ⟨a, c, rfl⟩ := hv.len
  have hcap := hv.caps
  have hln : l.length ≤ 9223372036854775807 := by omega
  have HLI : Hid (Calls Try.prog 8 #[.slice a l.length c, .int .i64 60] w fun e w' => e = .returned (.bool (lightB l 60)) ∧ w' = w) := light8 hv hln
  have HV : Hid (RowF oc w (.slice a l.length c) l) := hv
  have HI : Hid (∀ q ∈ l, QIn w q) := hi
  have HLL : Hid (lightB l 60 = true → l.length ≤ 60) := light_few
  have HLB : Hid (lightB l 60 = true → ∀ q ∈ l, q.b.length ≤ 1000000) := light_short hi
  clear hv hi hln
  cases hlb : lightB l 60
  · rw [hlb] at HLI
    clear hlb
    go_enter Try.func7, Try.ntmps7
    go_wp2_with (first
      | (go_at_call 8; go_must (refine HLI.out.mono ?_; rintro r w2 ⟨rfl, hw2⟩; replace hw2 := hw2.symm; subst hw2))
      | (go_at_call 9; go_must (refine (HAL.out _).mono ?_; rintro r w3 ⟨rfl, hb3⟩)))
    go_ret
    exact ⟨rfl, hb3⟩
  · have HL60 : Hid (l.length ≤ 60) := HLL.out hlb
    have HS : Hid (Calls Try.prog 21 #[.slice a l.length c] w fun e w' => ∃ v' l' z, e = .returned v' ∧ Srtd l w' v' l' z ∧ Below w.heap.size w w') := sort21 HV.out (by have := HL60.out; omega) (fun q hq => ⟨(HI.out q hq).rd, HLB.out hlb q hq⟩)
    have HB6 := HLB.out hlb
    have HBL : Hid (∀ q ∈ l, q.b.length ≤ 1000000) := HB6
    rw [hlb] at HLI
    clear hlb HB6 HLL HLB
    go_enter Try.func7, Try.ntmps7
    go_upto_region 4 with (first
      | (go_at_call 8; go_must (refine HLI.out.mono ?_; rintro r w2 ⟨rfl, hw2⟩; replace hw2 := hw2.symm; subst hw2))
      | (go_at_call 21; go_must (refine HS.out.mono ?_; rintro r w1 ⟨v1, s, z, rfl, h1, h2⟩; have HSR : Hid (Srtd l w1 v1 s z) := h1; have HB1 : Hid (Below w.heap.size w w1) := h2; clear h1 h2)))
    obtain ⟨a2, c2, rfl⟩ := HSR.out.row.len
    have hcap2 := HSR.out.row.caps
    have HNS : Hid (∃ N, s.length = N) := ⟨_, rfl⟩
    obtain ⟨N, hNN⟩ := HNS.out
    have HNN : Hid (s.length = N) := hNN
    have HROW : Hid (RowF oc w1 (.slice a2 N c2) s) := by have := HSR.out.row; rwa [hNN] at this
    rw [hNN] at hcap2 HSR ⊢
    have hN64 : N ≤ 9223372036854775807 := by omega
    clear HS HLI hNN HNS
    go_wp2
    go_loopw [4] (fun i wr => ∃ m : Nat, i = .int .i64 ((m : Int) + 1) ∧ (m + 1 ≤ N ∨ N = 0 ∧ m = 0) ∧ Hid (Below w1.heap.size w1 wr)) (fun i _ => N + 1 - (intOf i).toNat)
    case atStart => exact ⟨0, rfl, by omega, Below.refl _ _⟩
    case round =>
      obtain ⟨m, rfl, hm, HB⟩ := hrel
      rename World => wq
      by_cases hk : m + 1 < N
      · have hkI : (m : Int) + 1 < (N : Int) := by omega
        have hk0 : (m : Int) < (N : Int) := by omega
        obtain ⟨q, hq⟩ : ∃ q, s[m]? = some q := ⟨_, List.getElem?_eq_getElem (by have := HNN.out; omega)⟩
        obtain ⟨r, hr⟩ : ∃ r, s[m + 1]? = some r := ⟨_, List.getElem?_eq_getElem (by have := HNN.out; omega)⟩
        have hlt : ltP q.a r.a := by
          have h1 := List.pairwise_iff_getElem.1 HSR.out.str m (m + 1) (by have := HNN.out; omega) (by have := HNN.out; omega) (by omega)
          obtain ⟨_, e1⟩ := List.getElem?_eq_some_iff.1 hq
          obtain ⟨_, e2⟩ := List.getElem?_eq_some_iff.1 hr
          rw [e1, e2] at h1
          exact h1
        obtain ⟨b1, o1, rfl, _⟩ := HROW.out.at oc_len hq
        have hC : ∀ w' : World, Below wq.heap.size wq w' → w'.rangeAt b1 (o1 + m * 10) (oc q) ∧ w'.rangeAt b1 (o1 + (m + 1) * 10) (oc r) := fun w' hb => by
          obtain ⟨b1', o1', e1, h1⟩ := (HROW.out.below (bnext HB.out hb)).at oc_len hq
          obtain ⟨b2', o2', e2, h2⟩ := (HROW.out.below (bnext HB.out hb)).at oc_len hr
          cases e1
          cases e2
          exact ⟨h1, h2⟩
        have HCL : Hid (∀ z : WIn (fun w' => Below wq.heap.size wq w'), z.w.rangeAt b1 (o1 + m * 10) (oc q) ∧ z.w.rangeAt b1 (o1 + (m + 1) * 10) (oc r)) := fun z => hC z.w z.ok
        have HK : Hid (∀ w' : World, Calls Try.prog 24 #[ov q, ov r] w' fun r w'' => r = .returned (.bool true) ∧ Below w'.heap.size w' w'') := fun w' => by
          have := less24 q r w'
          rwa [decide_eq_true hlt] at this
        have ne : Nonempty (WIn (fun w' => Below wq.heap.size wq w')) := ⟨⟨wq, Below.refl _ _⟩⟩
        clear hq hr hlt hC
        go_wp2_with fail
        refine wp_region_tree (C := fun w' => ∃ z : WIn (fun w' => Below wq.heap.size wq w'), w' = z.w) (.still 0 (.still 1 (.still 2 (.still 3 (.still 4 (.still 5 (.still 6 (.still 7 (.still 8 (.one 9 (.still 10 .done))))))))))) (by kernel_rfl) (by kernel_rfl) ⟨⟨wq.drew, below_drewn wq 1⟩, rfl⟩ ?_
        iterate 4 (refine tree_still rfl rfl ?_; go_big_quiet_step (fail); refine wpQuiet_nil ?_)
        refine tree_still rfl rfl ?_
        refine quiet_ok1 rfl (fun w' hw' => by obtain ⟨z, rfl⟩ := hw'; exact exec_load26 (q := q) (.tmp 23) rfl rfl (HCL.out z).1) ?_
        go_simp
        iterate 3 (refine tree_still rfl rfl ?_; go_big_quiet_step (fail); refine wpQuiet_nil ?_)
        refine tree_still rfl rfl ?_
        refine quiet_ok1 rfl (fun w' hw' => by obtain ⟨z, rfl⟩ := hw'; exact exec_load26 (q := r) (.tmp 27) rfl rfl (HCL.out z).2) ?_
        go_simp
        refine tree_one rfl rfl ?_
        go_simp
        refine (HK.out _).mono ?_
        rintro r w3 ⟨rfl, hb3⟩
        have HB3 : Hid (Below wq.heap.size wq w3) := bnext (below_drewn wq 1) hb3
        clear hb3
        refine ⟨⟨⟨w3, HB3.out⟩, rfl⟩, ?_⟩
        go_simp
        iterate 1 (refine tree_still rfl rfl ?_; go_big_quiet_step (fail); refine wpQuiet_nil ?_)
        refine tree_done ?_
        clear ne HCL HK
        go_wp2
        go_roundw
        case rel => exact ⟨m + 1, by go_num, by omega, bnext HB.out HB3.out⟩
        case measure => simp [intOf]; omega
      · have hkI : ¬ (m : Int) + 1 < (N : Int) := by omega
        clear hm
        have HBq : Hid (Below w.heap.size w wq) := bnext HB1.out HB.out
        have HRq : Hid (RowF oc wq (.slice a2 N c2) s) := HROW.out.below HB.out
        have HVq : Hid (RowF oc wq (.slice a l.length c) l) := HV.out.below HBq.out
        clear HROW
        go_wp2
        go_loopw [5] (fun i wr => ∃ m : Nat, i = .int .i64 (m : Int) ∧ m ≤ l.length ∧ Hid (Below wq.heap.size wq wr)) (fun i _ => l.length - (intOf i).toNat)
        case atStart => exact ⟨0, rfl, Nat.zero_le _, Below.refl _ _⟩
        case round =>
          obtain ⟨m2, rfl, hm2, HBm⟩ := hrel
          rename World => wt
          by_cases hk2 : m2 < l.length
          · have hmI : (m2 : Int) < (l.length : Int) := by omega
            obtain ⟨x, hx⟩ : ∃ x, l[m2]? = some x := ⟨_, List.getElem?_eq_getElem hk2⟩
            have HX : Hid (l[m2]? = some x) := hx
            have HAN : Hid (s.any (fun t => decide (t.a = x.a)) = true) := by
              obtain ⟨t, h1, h2⟩ := HSR.out.has (List.mem_of_getElem? hx)
              exact List.any_eq_true.2 ⟨t, h1, decide_eq_true h2⟩
            obtain ⟨b1, o1, rfl, _⟩ := HVq.out.at oc_len hx
            clear hx
            go_wp2
            go_loopw [6, 7] (fun d i wr => ∃ k : Nat, i = .int .i64 (k : Int) ∧ d = .bool ((s.take k).any (fun t => decide (t.a = x.a))) ∧ k ≤ N ∧ Hid (Below wq.heap.size wq wr)) (fun _ i _ => N - (intOf i).toNat)
            case atStart => exact ⟨0, rfl, rfl, Nat.zero_le _, HBm⟩
            case round =>
              obtain ⟨k, rfl, rfl, hkN, HBk⟩ := hrel
              rename World => wk
              by_cases hk3 : k < N
              · have hkI3 : (k : Int) < (N : Int) := by omega
                obtain ⟨t, ht⟩ : ∃ t, s[k]? = some t := ⟨_, List.getElem?_eq_getElem (by have := HNN.out; omega)⟩
                have HAT : Hid ((s.take (k + 1)).any (fun t => decide (t.a = x.a)) = ((s.take k).any (fun t => decide (t.a = x.a)) || decide (t.a = x.a))) := any_take_more ht
                obtain ⟨b2, o2, rfl, hr2⟩ := (HRq.out.below HBk.out).at oc_len ht
                obtain ⟨b1', o1', e1, hr1⟩ := (HVq.out.below HBk.out).at oc_len HX.out
                cases e1
                have c0 := hr2 1 _ rfl
                have c1 := hr2 2 _ rfl
                have d0 := hr1 1 _ rfl
                have d1 := hr1 2 _ rfl
                clear hr1 hr2 ht
                cases hd : (s.take k).any (fun t => decide (t.a = x.a))
                · rw [hd] at HAT
                  clear hd
                  rcases pair_cases t.a x.a with he | he | ⟨he, he2⟩
                  · have HA1 : Hid ((s.take (k + 1)).any (fun t => decide (t.a = x.a)) = true) := by
                      show _ = _
                      rw [HAT.out, decide_eq_true he]; rfl
                    rw [he] at c0 c1
                    clear HAT he
                    go_wp2_with fail
                    go_quiet (fail)
                    go_wp2
                    go_roundw
                    case rel => exact ⟨k + 1, by go_num, by rw [HA1.out], by omega, bnext HBk.out (below_drewn _ _)⟩
                    case measure => simp [intOf]; omega
                  all_goals
                    have hne : ¬ t.a = x.a := fun e => by
                      have e1 := congrArg Prod.fst e
                      have e2 := congrArg Prod.snd e
                      first
                        | (rw [e1] at he; simp at he; done)
                        | (rw [e2] at he2; simp at he2; done)
                    have HA1 : Hid ((s.take (k + 1)).any (fun t => decide (t.a = x.a)) = false) := by
                      show _ = _
                      rw [HAT.out, decide_eq_false hne]; rfl
                    clear hne
                    clear HAT
                    try rw [he] at c0
                    go_wp2_with fail
                    go_quiet (fail)
                    go_wp2
                    go_roundw
                    case rel => exact ⟨k + 1, by go_num, by rw [HA1.out], by omega, bnext HBk.out (below_drewn _ _)⟩
                    case measure => simp [intOf]; omega
                · have HA1 : Hid ((s.take (k + 1)).any (fun t => decide (t.a = x.a)) = true) := by
                    show _ = _
                    rw [HAT.out, hd]; rfl
                  clear hd HAT
                  go_wp2_with fail
                  go_quiet (fail)
                  go_wp2
                  go_roundw
                  case rel => exact ⟨k + 1, by go_num, by rw [HA1.out], by omega, bnext HBk.out (below_drewn _ _)⟩
                  case measure => simp [intOf]; omega
              · have hkI3 : ¬ (k : Int) < (N : Int) := by omega
                obtain rfl : k = N := by omega
                have HT : Hid ((s.take k).any (fun t => decide (t.a = x.a)) = true) := by
                  show _ = _
                  rw [List.take_of_length_le (by have := HNN.out; omega)]
                  exact HAN.out
                rw [HT.out]
                go_wp2
                go_roundw
                case rel => exact ⟨m2 + 1, by go_num, by omega, HBk⟩
                case measure => simp [intOf]; omega
          · have hmI : ¬ (m2 : Int) < (l.length : Int) := by omega
            have HRt : Hid (RowF oc wt (.slice a2 N c2) s) := HRq.out.below HBm.out
            have HBt : Hid (Below w.heap.size w wt) := bnext HBq.out HBm.out
            have HB1t : Hid (Below w1.heap.size w1 wt) := bnext HB.out HBm.out
            have HFW : Hid (s.length ≤ l.length) := HSR.out.few
            have HS2 : Hid (Calls Try.prog 21 #[.slice a2 N c2] wt fun e w' => ∃ v' l' z, e = .returned v' ∧ Srtd s w' v' l' z ∧ Below wt.heap.size wt w') := sort21 HRt.out (by have := HFW.out; have := HL60.out; omega) (fun q hq => ⟨(HSR.out.rd q hq).below HB1t.out, by
              obtain ⟨q', h1, h2⟩ := HSR.out.from_ hq
              have := HBL.out q' h1
              have e : q'.b = q.b := show (bare q').b = (bare q).b by rw [h2]
              rwa [e] at this⟩)
            have hfw : (N : Int) ≤ (l.length : Int) := by have := HFW.out; have := HNN.out; omega
            clear hm2 hk2
            go_wp2_with (first
              | (go_at_call 21; go_must (refine HS2.out.mono ?_; rintro r w5 ⟨v5, s5, z5, rfl, h1, h2⟩; have HS5 : Hid (Srtd s w5 v5 s5 z5) := h1; have HB5 : Hid (Below wt.heap.size wt w5) := h2; clear h1 h2))
              | (go_at_call 20; go_must (refine (all20 HS5.out.row (HRt.out.below HB5.out) HS5.out.rd (fun q hq => ((HSR.out.rd q hq).below HB1t.out).below HB5.out) (HSR.out.again HS5.out)).mono ?_; rintro r w6 ⟨rfl, h2⟩; have HB6 : Hid (Below w.heap.size w w6) := bnext (bnext HBt.out HB5.out) h2; clear h2))
              | (go_at_call 9; go_must (refine (HAL.out _).mono ?_; rintro r w7 ⟨rfl, h2⟩; have HB7 : Hid (Below w.heap.size w w7) := bnext HB6.out h2; clear h2)))
            go_ret
            exact ⟨rfl, HB7.out⟩
end Go.Proofs.Ytcchokedfbogfaa
