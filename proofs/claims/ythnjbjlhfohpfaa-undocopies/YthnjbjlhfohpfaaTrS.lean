/-
  Items that are alike, and lists of them, by the reference.
-/
import Derived.Test.YthnjbjlhfohpfaaNam
import Derived.Test.YthnjbjlhfohpfaaWirP
namespace Go.Proofs.Ythnjbjlhfohpfaa
set_option linter.unusedVariables false
set_option linter.unusedSimpArgs false
set_option synthInstance.maxSize 20000
set_option maxHeartbeats 2000000
set_option maxRecDepth 20000
open Go.RowKit Go.Maps

def sameI (q r : IM) : Bool := decide (q.n = r.n ∧ q.p = r.p ∧ q.s.toList = r.s.toList ∧ q.d = r.d ∧ q.g = r.g ∧ q.y = r.y ∧ q.b = r.b)
theorem sameI_refl (q : IM) : sameI q q = true := by simp [sameI]
theorem rsame13 {q r : IT} {w : World} (hq : Rd w q.v q.m.b) (hr : Rd w r.v r.m.b) : Calls Try.prog 46 #[iv q, iv r] w fun e w' => e = .returned (.bool (sameI q.m r.m)) ∧ Below w.heap.size w w' := by
  have HE : Hid (∀ w', Below w.heap.size w w' → Calls Try.prog 64 #[q.v, r.v] w' fun e w'' => e = .returned (.bool (decide (q.m.b = r.m.b))) ∧ Below w'.heap.size w' w'') := fun w' h => same_any q.v r.v q.m.b r.m.b w' (hq.below h) (hr.below h)
  have HQ : Hid (sameI q.m r.m = decide (q.m.n = r.m.n ∧ q.m.p = r.m.p ∧ q.m.s.toList = r.m.s.toList ∧ q.m.d = r.m.d ∧ q.m.g = r.m.g ∧ q.m.y = r.m.y ∧ q.m.b = r.m.b)) := (rfl : sameI q.m r.m = _)
  generalize sameI q.m r.m = SO at HQ ⊢
  clear hq hr
  obtain ⟨⟨⟨n1, n2⟩, ⟨p1, p2⟩, s, d, g, ⟨y1, y2⟩, b⟩, a, vn, vc⟩ := q
  obtain ⟨⟨⟨n1', n2'⟩, ⟨p1', p2'⟩, s', d', g', ⟨y1', y2'⟩, b'⟩, a', vn', vc'⟩ := r
  unfold IT.v at HE
  unfold iv ic
  dsimp only at HE HQ ⊢
  have HB0 : Hid (Below w.heap.size w ((w.alloc (.cells #[.int .i64 n1, .int .i64 n2, .int .i64 p1, .int .i64 p2, .string s, .bool d, .bool g, .slice a vn vc, .int .i64 y1, .int .i64 y2] 88)).alloc (.cells #[.int .i64 n1', .int .i64 n2', .int .i64 p1', .int .i64 p2', .string s', .bool d', .bool g', .slice a' vn' vc', .int .i64 y1', .int .i64 y2'] 88))) := (show Below _ _ _ from balloc (balloc (Below.refl _ _) _) _)
  by_cases h_n1 : n1 = n1'
  rotate_left
  · have e_n1 : (n1 == n1') = false := by simp [h_n1]
    have HF : Hid (SO = false) := by show _ = _; rw [HQ.out]; simp [h_n1]
    clear HE HQ
    go_enter Try.func46, Try.ntmps46
    go_wp2
    go_ret
    exact ⟨by rw [HF.out]; rfl, HB0.out⟩
  subst h_n1
  by_cases h_n2 : n2 = n2'
  rotate_left
  · have e_n2 : (n2 == n2') = false := by simp [h_n2]
    have HF : Hid (SO = false) := by show _ = _; rw [HQ.out]; simp [h_n2]
    clear HE HQ
    go_enter Try.func46, Try.ntmps46
    go_wp2
    go_ret
    exact ⟨by rw [HF.out]; rfl, HB0.out⟩
  subst h_n2
  by_cases h_p1 : p1 = p1'
  rotate_left
  · have e_p1 : (p1 == p1') = false := by simp [h_p1]
    have HF : Hid (SO = false) := by show _ = _; rw [HQ.out]; simp [h_p1]
    clear HE HQ
    go_enter Try.func46, Try.ntmps46
    go_wp2
    go_ret
    exact ⟨by rw [HF.out]; rfl, HB0.out⟩
  subst h_p1
  by_cases h_p2 : p2 = p2'
  rotate_left
  · have e_p2 : (p2 == p2') = false := by simp [h_p2]
    have HF : Hid (SO = false) := by show _ = _; rw [HQ.out]; simp [h_p2]
    clear HE HQ
    go_enter Try.func46, Try.ntmps46
    go_wp2
    go_ret
    exact ⟨by rw [HF.out]; rfl, HB0.out⟩
  subst h_p2
  by_cases h_s : s.toList = s'.toList
  rotate_left
  · have e_s : (s.toList == s'.toList) = false := by simp [h_s]
    have HF : Hid (SO = false) := by show _ = _; rw [HQ.out]; simp [h_s]
    clear HE HQ
    go_enter Try.func46, Try.ntmps46
    go_wp2
    go_ret
    exact ⟨by rw [HF.out]; rfl, HB0.out⟩
  have e_s : (s.toList == s'.toList) = true := by simp [h_s]
  by_cases h_d : d = d'
  rotate_left
  · have e_d : (d == d') = false := by simp [h_d]
    have HF : Hid (SO = false) := by show _ = _; rw [HQ.out]; simp [h_d]
    clear HE HQ
    go_enter Try.func46, Try.ntmps46
    go_wp2
    go_ret
    exact ⟨by rw [HF.out]; rfl, HB0.out⟩
  subst h_d
  by_cases h_g : g = g'
  rotate_left
  · have e_g : (g == g') = false := by simp [h_g]
    have HF : Hid (SO = false) := by show _ = _; rw [HQ.out]; simp [h_g]
    clear HE HQ
    go_enter Try.func46, Try.ntmps46
    go_wp2
    go_ret
    exact ⟨by rw [HF.out]; rfl, HB0.out⟩
  subst h_g
  by_cases h_y1 : y1 = y1'
  rotate_left
  · have e_y1 : (y1 == y1') = false := by simp [h_y1]
    have HF : Hid (SO = false) := by show _ = _; rw [HQ.out]; simp [h_y1]
    clear HE HQ
    go_enter Try.func46, Try.ntmps46
    go_wp2
    go_ret
    exact ⟨by rw [HF.out]; rfl, HB0.out⟩
  subst h_y1
  by_cases h_y2 : y2 = y2'
  rotate_left
  · have e_y2 : (y2 == y2') = false := by simp [h_y2]
    have HF : Hid (SO = false) := by show _ = _; rw [HQ.out]; simp [h_y2]
    clear HE HQ
    go_enter Try.func46, Try.ntmps46
    go_wp2
    go_ret
    exact ⟨by rw [HF.out]; rfl, HB0.out⟩
  subst h_y2
  have HF : Hid (SO = decide (b = b')) := by show _ = _; rw [HQ.out]; simp [h_s]
  generalize decide (b = b') = bb at HE HF
  clear HQ
  go_enter Try.func46, Try.ntmps46
  go_wp2_with (go_at_call 64; go_must (refine (HE.out _ HB0.out).mono ?_; rintro e w2 ⟨rfl, hb2⟩; have HB2 : Hid (Below w.heap.size w w2) := bnext HB0.out hb2; clear hb2))
  go_ret
  exact ⟨by rw [HF.out]; rfl, HB2.out⟩
set_option maxHeartbeats 4000000 in
theorem rsameL15 {w : World} {v u : Value} {x y : List IT} (hv : RowF ic w v x) (hu : RowF ic w u y) (hx : ∀ q ∈ x, Rd w q.v q.m.b) (hy : ∀ q ∈ y, Rd w q.v q.m.b) (h : x.map IT.m = y.map IT.m) :
    Calls Try.prog 23 #[v, u] w fun e w' => e = .returned (.bool true) ∧ Below w.heap.size w w' := by
  have hN : y.length = x.length := by have := congrArg List.length h; simpa using this.symm
  obtain ⟨a, c, rfl⟩ := hv.len
  obtain ⟨a2, c2, rfl⟩ := hu.len
  have hcap := hv.caps
  have hcap2 := hu.caps
  have hcapN : x.length ≤ 9223372036854775807 := by omega
  have HV : Hid (RowF ic w (.slice a x.length c) x) := hv
  have HU : Hid (RowF ic w (.slice a2 y.length c2) y) := hu
  rw [hN] at HU ⊢
  have HN : Hid (y.length = x.length) := hN
  have HX : Hid (∀ q ∈ x, Rd w q.v q.m.b) := hx
  have HY : Hid (∀ q ∈ y, Rd w q.v q.m.b) := hy
  have HE : Hid (x.map IT.m = y.map IT.m) := h
  have HNL : Hid (∃ N, x.length = N) := ⟨_, rfl⟩
  obtain ⟨N, hNN⟩ := HNL.out
  have HNN : Hid (x.length = N) := hNN
  rw [hNN] at HV HU HN hcapN ⊢
  clear hv hu hx hy h hN hcap hcap2 HNL hNN
  go_enter Try.func23, Try.ntmps23
  go_wp2
  go_loopw [5] (fun i wr => ∃ m : Nat, i = .int .i64 (m : Int) ∧ m ≤ N ∧ Hid (Below w.heap.size w wr)) (fun i _ => N - (intOf i).toNat)
  case atStart => exact ⟨0, rfl, Nat.zero_le _, Below.refl _ _⟩
  case round =>
    obtain ⟨m, rfl, hm, HB⟩ := hrel
    rename World => wq
    by_cases hk : m < N
    · have hkI : (m : Int) < (N : Int) := by omega
      obtain ⟨q, hq⟩ : ∃ q, x[m]? = some q := ⟨_, List.getElem?_eq_getElem (by have := HNN.out; omega)⟩
      obtain ⟨r, hr⟩ : ∃ r, y[m]? = some r := ⟨_, List.getElem?_eq_getElem (by have := HN.out; omega)⟩
      have hqr : q.m = r.m := by
        have h1 : (x.map IT.m)[m]? = (y.map IT.m)[m]? := by rw [HE.out]
        rw [List.getElem?_map, List.getElem?_map, hq, hr] at h1
        simpa using h1
      have hs : sameI q.m r.m = true := by rw [hqr]; exact sameI_refl _
      obtain ⟨b1, o1, rfl, _⟩ := HV.out.at ic_len hq
      obtain ⟨b2, o2, rfl, _⟩ := HU.out.at ic_len hr
      have hC : ∀ w' : World, Below wq.heap.size wq w' → w'.rangeAt b1 (o1 + m * 10) (ic q) ∧ w'.rangeAt b2 (o2 + m * 10) (ic r) := fun w' hb => by
        obtain ⟨b1', o1', e1, h1⟩ := (HV.out.below (bnext HB.out hb)).at ic_len hq
        obtain ⟨b2', o2', e2, h2⟩ := (HU.out.below (bnext HB.out hb)).at ic_len hr
        cases e1
        cases e2
        exact ⟨h1, h2⟩
      have HCL : Hid (∀ z : WIn (fun w' => Below wq.heap.size wq w'), z.w.rangeAt b1 (o1 + m * 10) (ic q) ∧ z.w.rangeAt b2 (o2 + m * 10) (ic r)) := fun z => hC z.w z.ok
      have hqx := HX.out q (List.mem_of_getElem? hq)
      have hrx := HY.out r (List.mem_of_getElem? hr)
      have HK : Hid (∀ w' : World, Below wq.heap.size wq w' → Calls Try.prog 46 #[iv q, iv r] w' fun r w'' => r = .returned (.bool true) ∧ Below w'.heap.size w' w'') := fun w' hb => by
        have := rsame13 (w := w') (hqx.below (bnext HB.out hb)) (hrx.below (bnext HB.out hb))
        rwa [hs] at this
      have ne : Nonempty (WIn (fun w' => Below wq.heap.size wq w')) := ⟨⟨wq, Below.refl _ _⟩⟩
      clear hq hr hqr hs hC hqx hrx
      go_wp2_with fail
      refine wp_region_tree (C := fun w' => ∃ z : WIn (fun w' => Below wq.heap.size wq w'), w' = z.w) (.still 0 (.still 1 (.still 2 (.still 3 (.still 4 (.still 5 (.still 6 (.still 7 (.one 8 (.still 9 .done)))))))))) (by kernel_rfl) (by kernel_rfl) ⟨⟨wq.drew, below_drewn wq 1⟩, rfl⟩ ?_
      iterate 3 (refine tree_still rfl rfl ?_; go_big_quiet_step (fail); refine wpQuiet_nil ?_)
      refine tree_still rfl rfl ?_
      refine quiet_ok1 rfl (fun w' hw' => by obtain ⟨z, rfl⟩ := hw'; exact exec_load41 (q := q) (.tmp 19) rfl rfl (HCL.out z).1) ?_
      go_simp
      iterate 3 (refine tree_still rfl rfl ?_; go_big_quiet_step (fail); refine wpQuiet_nil ?_)
      refine tree_still rfl rfl ?_
      refine quiet_ok1 rfl (fun w' hw' => by obtain ⟨z, rfl⟩ := hw'; exact exec_load41 (q := r) (.tmp 23) rfl rfl (HCL.out z).2) ?_
      go_simp
      refine tree_one rfl rfl ?_
      go_simp
      refine (HK.out _ (below_drewn wq 1)).mono ?_
      rintro r w3 ⟨rfl, hb3⟩
      have HB3 : Hid (Below wq.heap.size wq w3) := bnext (below_drewn wq 1) hb3
      clear hb3
      refine ⟨⟨⟨w3, HB3.out⟩, rfl⟩, ?_⟩
      go_simp
      iterate 1 (refine tree_still rfl rfl ?_; go_big_quiet_step (fail); refine wpQuiet_nil ?_)
      refine tree_done ?_
      clear ne HCL HK
      go_wp2
      go_roundw
      case rel => exact ⟨m + 1, by go_num, by omega, bnext HB.out HB3.out⟩
      case measure => simp [intOf]; omega
    · have hkI : ¬ (m : Int) < (N : Int) := by omega
      go_wp2
      go_ret
      exact ⟨rfl, HB.out⟩
end Go.Proofs.Ythnjbjlhfohpfaa
