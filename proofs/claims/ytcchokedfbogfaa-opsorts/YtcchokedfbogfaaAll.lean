/-
  Two lists of operations that are alike.
-/
import Derived.Test.YtcchokedfbogfaaSrt
import Derived.Test.YtcchokedfbogfaaSam
namespace Go.Proofs.Ytcchokedfbogfaa
set_option linter.unusedVariables false
set_option linter.unusedSimpArgs false
set_option synthInstance.maxSize 20000
set_option maxHeartbeats 2000000
set_option maxRecDepth 20000
open Go.RowKit Go.Maps

theorem sameO_bare {q r : OpT} (h : bare q = bare r) : sameO q r = true := by
  obtain ⟨k, a, n, p, d, s, va, vn, vc, b⟩ := q
  obtain ⟨k2, a2, n2, p2, d2, s2, va2, vn2, vc2, b2⟩ := r
  unfold bare at h
  simp only [OpT.mk.injEq, true_and, and_true] at h
  obtain ⟨rfl, rfl, rfl, rfl, rfl, rfl, rfl⟩ := h
  simp [sameO]
set_option maxHeartbeats 4000000 in
theorem all20 {w : World} {v u : Value} {x y : List OpT} (hv : RowF oc w v x) (hu : RowF oc w u y) (hx : ∀ q ∈ x, Rd w q.v q.b) (hy : ∀ q ∈ y, Rd w q.v q.b) (h : x.map bare = y.map bare) :
    Calls Try.prog 20 #[v, u] w fun e w' => e = .returned (.bool true) ∧ Below w.heap.size w w' := by
  have hN : y.length = x.length := by have := congrArg List.length h; simpa using this.symm
  obtain ⟨a, c, rfl⟩ := hv.len
  obtain ⟨a2, c2, rfl⟩ := hu.len
  have hcap := hv.caps
  have hcap2 := hu.caps
  have hcapN : x.length ≤ 9223372036854775807 := by omega
  have HV : Hid (RowF oc w (.slice a x.length c) x) := hv
  have HU : Hid (RowF oc w (.slice a2 y.length c2) y) := hu
  rw [hN] at HU ⊢
  have HN : Hid (y.length = x.length) := hN
  have HX : Hid (∀ q ∈ x, Rd w q.v q.b) := hx
  have HY : Hid (∀ q ∈ y, Rd w q.v q.b) := hy
  have HE : Hid (x.map bare = y.map bare) := h
  have HNL : Hid (∃ N, x.length = N) := ⟨_, rfl⟩
  obtain ⟨N, hNN⟩ := HNL.out
  have HNN : Hid (x.length = N) := hNN
  rw [hNN] at HV HU HN hcapN ⊢
  clear hv hu hx hy h hN hcap hcap2 HNL hNN
  go_enter Try.func20, Try.ntmps20
  go_wp2
  go_loopw [5] (fun i wr => ∃ m : Nat, i = .int .i64 (m : Int) ∧ m ≤ N ∧ Hid (Below w.heap.size w wr)) (fun i _ => N - (intOf i).toNat)
  case atStart => exact ⟨0, rfl, Nat.zero_le _, Below.refl _ _⟩
  case round =>
    obtain ⟨m, rfl, hm, HB⟩ := hrel
    rename World => wq
    by_cases hk : m < N
    · have hkI : (m : Int) < (N : Int) := by omega
      obtain ⟨q, hq⟩ : ∃ q, x[m]? = some q := ⟨_, List.getElem?_eq_getElem (by have := HNN.out; omega)⟩
      obtain ⟨r, hr⟩ : ∃ r, y[m]? = some r := ⟨_, List.getElem?_eq_getElem (by have := HN.out; omega)⟩
      have hqr : bare q = bare r := by
        have h1 : (x.map bare)[m]? = (y.map bare)[m]? := by rw [HE.out]
        rw [List.getElem?_map, List.getElem?_map, hq, hr] at h1
        simpa using h1
      have hs := sameO_bare hqr
      obtain ⟨b1, o1, rfl, _⟩ := HV.out.at oc_len hq
      obtain ⟨b2, o2, rfl, _⟩ := HU.out.at oc_len hr
      have hC : ∀ w' : World, Below wq.heap.size wq w' → w'.rangeAt b1 (o1 + m * 10) (oc q) ∧ w'.rangeAt b2 (o2 + m * 10) (oc r) := fun w' hb => by
        obtain ⟨b1', o1', e1, h1⟩ := (HV.out.below (bnext HB.out hb)).at oc_len hq
        obtain ⟨b2', o2', e2, h2⟩ := (HU.out.below (bnext HB.out hb)).at oc_len hr
        cases e1
        cases e2
        exact ⟨h1, h2⟩
      have HCL : Hid (∀ z : WIn (fun w' => Below wq.heap.size wq w'), z.w.rangeAt b1 (o1 + m * 10) (oc q) ∧ z.w.rangeAt b2 (o2 + m * 10) (oc r)) := fun z => hC z.w z.ok
      have hqx := HX.out q (List.mem_of_getElem? hq)
      have hrx := HY.out r (List.mem_of_getElem? hr)
      have HK : Hid (∀ w' : World, Below wq.heap.size wq w' → Calls Try.prog 19 #[ov q, ov r] w' fun r w'' => r = .returned (.bool true) ∧ Below w'.heap.size w' w'') := fun w' hb => by
        have := rsame19 (w := w') (hqx.below (bnext HB.out hb)) (hrx.below (bnext HB.out hb))
        rwa [hs] at this
      have ne : Nonempty (WIn (fun w' => Below wq.heap.size wq w')) := ⟨⟨wq, Below.refl _ _⟩⟩
      clear hq hr hqr hs hC hqx hrx
      go_wp2_with fail
      refine wp_region_tree (C := fun w' => ∃ z : WIn (fun w' => Below wq.heap.size wq w'), w' = z.w) (.still 0 (.still 1 (.still 2 (.still 3 (.still 4 (.still 5 (.still 6 (.still 7 (.one 8 (.still 9 .done)))))))))) (by kernel_rfl) (by kernel_rfl) ⟨⟨wq.drew, below_drewn wq 1⟩, rfl⟩ ?_
      iterate 3 (refine tree_still rfl rfl ?_; go_big_quiet_step (fail); refine wpQuiet_nil ?_)
      refine tree_still rfl rfl ?_
      refine quiet_ok1 rfl (fun w' hw' => by obtain ⟨z, rfl⟩ := hw'; exact exec_load26 (q := q) (.tmp 19) rfl rfl (HCL.out z).1) ?_
      go_simp
      iterate 3 (refine tree_still rfl rfl ?_; go_big_quiet_step (fail); refine wpQuiet_nil ?_)
      refine tree_still rfl rfl ?_
      refine quiet_ok1 rfl (fun w' hw' => by obtain ⟨z, rfl⟩ := hw'; exact exec_load26 (q := r) (.tmp 23) rfl rfl (HCL.out z).2) ?_
      go_simp
      refine tree_one rfl rfl ?_
      go_simp
      refine (HK.out _ (below_drewn wq 1)).mono ?_
      rintro r w3 ⟨rfl, hb3⟩
      have HB3 : Hid (Below wq.heap.size wq w3) := bnext (below_drewn wq 1) hb3
      clear hb3
      refine ⟨⟨⟨w3, HB3.out⟩, rfl⟩, ?_⟩
      go_simp
      iterate 1 (refine tree_still rfl rfl ?_; go_big_quiet_step (fail); refine wpQuiet_nil ?_)
      refine tree_done ?_
      clear ne HCL HK
      go_wp2
      go_roundw
      case rel => exact ⟨m + 1, by go_num, by omega, bnext HB.out HB3.out⟩
      case measure => simp [intOf]; omega
    · have hkI : ¬ (m : Int) < (N : Int) := by omega
      go_wp2
      go_ret
      exact ⟨rfl, HB.out⟩
end Go.Proofs.Ytcchokedfbogfaa
