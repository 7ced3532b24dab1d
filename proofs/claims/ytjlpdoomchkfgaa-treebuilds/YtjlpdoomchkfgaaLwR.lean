/-
  A tree that is built hangs on the root: the law walked.
-/
import Derived.Test.YtjlpdoomchkfgaaTsI
import Derived.Test.YtjlpdoomchkfgaaTsH
import Derived.Test.YtjlpdoomchkfgaaLgt
import Derived.Test.YtjlpdoomchkfgaaArgO
namespace Go.Proofs.Ytjlpdoomchkfgaa
set_option linter.unusedVariables false
set_option linter.unusedSimpArgs false
set_option synthInstance.maxSize 20000
set_option maxHeartbeats 2000000
set_option maxRecDepth 20000
open Go.RowKit Go.Maps

theorem exec_neq24 {o : Oper} {r : Operand → Value} {w : World} {a b : S} (x y : Operand) (ho : o.op = .binOp .neq 24 x y 24) (hx : r x = sv a) (hy : r y = sv b) : (execOp r o).run Try.prog w = .ok (.value (.bool (!decide (a = b)))) w := by
  obtain ⟨a1, a2⟩ := a
  obtain ⟨b1, b2⟩ := b
  unfold sv at hx hy
  dsimp only at hx hy
  have e : decide ((a1, a2) = (b1, b2)) = (a1 == b1 && a2 == b2) := by
    by_cases h1 : a1 = b1 <;> by_cases h2 : a2 = b2 <;> simp [h1, h2]
  rw [e]
  unfold execOp
  simp only [ho]
  go_simp
  by_cases h1 : a1 = b1 <;> by_cases h2 : a2 = b2 <;> simp [h1, h2]
/-- What holds no content if it is a directory. -/
def NoD (M : List IM) : Prop := ∀ x ∈ M, x.d = true → x.b = []
theorem NoD.do {M : List IM} (h : NoD M) (hs : SrtI M) (q : OpT) : NoD (doM M q) := by
  unfold doM
  split
  · unfold stepM
    cases hc : chM M q with
    | none => exact h
    | some y =>
      intro z hz hd
      rcases (putM_mem hs).1 hz with rfl | ⟨h1, _⟩
      · unfold chM at hc
        split at hc
        · split at hc
          · cases hc
          · split at hc
            · cases hc; rfl
            · cases hc
        · cases hf : findM M q.n with
          | none => rw [hf] at hc; cases hc
          | some x =>
            rw [hf] at hc
            dsimp only at hc
            have hx := (findM_mem hf).1
            split at hc
            · split at hc
              · split at hc
                · cases hc
                · cases hc; exact h x hx hd
              · cases hc
            · split at hc
              · cases hc; exact h x hx hd
              · split at hc
                · cases hc
                · rename_i h3
                  cases hc
                  exact absurd hd h3
      · exact h z h1 hd
  · exact h
theorem NoD.build : ∀ {l : List OpT} {M : List IM}, NoD M → Gd M → M.length + l.length ≤ 300 → NoD (buildM M l)
  | [], M, h, _, _ => h
  | q :: l, M, h, hg, hl => by
    simp only [List.length_cons] at hl
    have h2 := doM_len M q
    exact NoD.build (l := l) (h.do hg.srt q) (hg.do (by omega)) (by omega)
theorem light_of {l : List OpT} {n : Int} (h : lightB l n = true) {W : World} (en : ∀ q ∈ l, Rd W q.v q.b) : (l.length : Int) ≤ n ∧ ∀ q ∈ l, Rd W q.v q.b ∧ q.b.length ≤ 1000 := by
  unfold lightB at h
  rw [Bool.and_eq_true] at h
  refine ⟨of_decide_eq_true h.1, fun q hq => ⟨en q hq, ?_⟩⟩
  have h1 := of_decide_eq_true (List.all_eq_true.1 h.2 q hq)
  have h2 := okv_of (en q hq)
  unfold Okv at h2
  omega
theorem filter_any (M : List IM) : M.filter anyI = M := List.filter_eq_self.2 fun x _ => rfl
theorem range_sub {w : World} {b off : Nat} {x : IT} (h : w.rangeAt b off (ic x)) : w.rangeAt b off (sc x.m.n) ∧ w.rangeAt b (off + 2) (sc x.m.p) := by
  refine ⟨fun j u hj => ?_, fun j u hj => ?_⟩
  · match j, hj with
    | 0, hj => exact h 0 u hj
    | 1, hj => exact h 1 u hj
    | j + 2, hj => simp [sc] at hj
  · match j, hj with
    | 0, hj => exact h 2 u hj
    | 1, hj => exact h 3 u hj
    | j + 2, hj => simp [sc] at hj
/-- All that a built tree tells of one of its items. -/
structure Hung (M : List IM) (x : IM) : Prop where
  w1 : pwithinM M x.n x.p = false
  w2 : pwithinM M (0, 0) x.n = true
  par : x.p = (0, 0) ∨ ∃ y, findM M x.p = some y ∧ y.d = true
  hg : phangsM M x.n = (!x.g && phangsM M x.p)
  nod : x.d = true → x.b = []
theorem hung_of {M : List IM} (h : Gd M) (hn : NoD M) (hl : M.length ≤ 300) {x : IM} (hx : x ∈ M) : Hung M x := by
  refine ⟨?_, ?_, dirM_iff.1 (h.par x hx), ?_, hn x hx⟩
  · rw [h.pw hl]; exact h.noring hx 301
  · unfold pwithinM
    rw [if_neg (h.nz x hx), if_pos rfl]
    exact hasM_iff.2 ⟨x, hx, rfl⟩
  · rw [h.ph hl, h.ph hl]; exact h.hangs_step hl hx
set_option maxHeartbeats 16000000 in
theorem rooted5 (v : Value) (l : List OpT) (W : World) (rd : RowF oc W v l) (en : ∀ q ∈ l, QIn W q) : Calls Try.prog 5 #[v] W fun e W' => e = .returned (.bool true) ∧ Below W.heap.size W W' := by
  obtain ⟨a0, c0, rfl⟩ := rd.len
  have hcap := rd.caps
  have HLt : Hid (Calls Try.prog 8 #[.slice a0 l.length c0, .int .i64 60] W fun e w' => e = .returned (.bool (lightB l 60)) ∧ w' = W) := light8 rd (by omega)
  have HRD : Hid (RowF oc W (.slice a0 l.length c0) l) := rd
  have HEN : Hid (∀ q ∈ l, Rd W q.v q.b) := fun q hq => (en q hq).rd
  have HAl : Hid (∀ w', Calls Try.prog 9 #[] w' fun e w'' => e = .returned (.bool true) ∧ Below w'.heap.size w' w'') := alive9
  clear rd en hcap
  cases hlb : lightB l 60
  · rw [hlb] at HLt
    clear hlb
    go_enter Try.func5, Try.ntmps5
    go_wp2_with (first
      | (go_at_call 8; go_must (refine HLt.out.mono ?_; rintro e wx ⟨rfl, hw⟩; replace hw := hw.symm; subst hw))
      | (go_at_call 9; go_must (refine (HAl.out _).mono ?_; rintro e w2 ⟨rfl, hb2⟩; have HB2 : Hid (Below W.heap.size W w2) := hb2; clear hb2)))
    go_ret
    exact ⟨rfl, HB2.out⟩
  · obtain ⟨hl60, hq⟩ := light_of hlb HEN.out
    have hl60' : l.length ≤ 60 := by omega
    rw [hlb] at HLt
    have HBu : Hid (Calls Try.prog 27 #[.slice a0 l.length c0] W (BuildAns W l)) := build27 HRD.out hl60' hq
    have HL60 : Hid (l.length ≤ 60) := hl60'
    clear hlb hl60 hl60' hq
    go_enter Try.func5, Try.ntmps5
    go_upto_region 4 with (first
      | (go_at_call 8; go_must (refine HLt.out.mono ?_; rintro e wx ⟨rfl, hw⟩; replace hw := hw.symm; subst hw))
      | (go_at_call 27; go_must (refine HBu.out.mono ?_; rintro e w2 ⟨tb, mo, L, O, rfl, hP, hF, hM, hlen, ht, hmo, hb2⟩; have HB2 : Hid (Below W.heap.size W w2) := hb2; have HP2 : Hid (PTr w2 tb mo L) := hP; have HM : Hid (L.map IT.m = buildM [] O) := hM; have HLo : Hid (O.length ≤ l.length) := hlen; clear hb2 hP hM hlen ht hmo hF)))
    have HLL : Hid (L.length ≤ 60) := by
      have h1 := congrArg List.length HM.out
      have h2 := buildM_len O []
      rw [List.length_map] at h1
      rw [List.length_nil] at h2
      have := HLo.out
      have := HL60.out
      show _ ≤ _
      omega
    have HGd : Hid (Gd (L.map IT.m)) := by
      show Gd _
      rw [HM.out]
      refine Gd.build gd_nil ?_
      have := HLo.out
      have := HL60.out
      rw [List.length_nil]
      omega
    have HNoD : Hid (NoD (L.map IT.m)) := by
      show NoD _
      rw [HM.out]
      refine NoD.build (fun x hx => by cases hx) gd_nil ?_
      have := HLo.out
      have := HL60.out
      rw [List.length_nil]
      omega
    have HAll : Hid (Calls Try.prog 17 #[ptr tb] w2 (ThoseAns w2 L anyI)) := all17 HP2.out (by have := HLL.out; omega)
    go_upto_region 5 with (go_at_call 17; go_must (refine HAll.out.mono ?_; rintro e w3 ⟨v3, X, rfl, ho, hm, hown, hb3⟩; have HB3 : Hid (Below w2.heap.size w2 w3) := hb3; have HX3 : Hid (RowF ic w3 v3 X) := ho.row; have HMX : Hid (X.map IT.m = L.map IT.m) := (show _ = _ from by rw [hm, filter_any]); have HOw : Hid (∀ y ∈ X, Own w2.heap.size 5 w3 y.v y.m.b) := hown; clear hb3 ho hm hown))
    have HP3 : Hid (PTr w3 tb mo L) := HP2.out.below HB3.out
    obtain ⟨a3, c3, rfl⟩ := HX3.out.len
    have hcap3 := HX3.out.caps
    have hXl : X.length ≤ 60 := by have := congrArg List.length HMX.out; rw [List.length_map, List.length_map] at this; have := HLL.out; omega
    have HBz : Hid (Below W.heap.size W w3) := bnext HB2.out HB3.out
    obtain ⟨N, hN⟩ : ∃ N, N = X.length := ⟨_, rfl⟩
    have HN : Hid (N = X.length) := hN
    rw [← hN] at hcap3 hXl HX3 ⊢
    clear hN HLt HBu HAll HB2 HB3 HP2
    go_wp2
    go_loopw [5] (fun i wr => ∃ (k : Nat), i = .int .i64 (k : Int) ∧ k ≤ N ∧ Hid (Below w3.heap.size w3 wr)) (fun i _ => N - (intOf i).toNat)
    case atStart => exact ⟨0, rfl, Nat.zero_le _, Below.refl _ _⟩
    case round =>
      obtain ⟨k, rfl, hk, HB⟩ := hrel
      rename World => wr
      by_cases hlt : k < N
      · have hkI : (k : Int) < (N : Int) := by omega
        obtain ⟨x, hx⟩ : ∃ x, X[k]? = some x := ⟨_, List.getElem?_eq_getElem (by have := HN.out; omega)⟩
        have hmem : x ∈ X := List.mem_of_getElem? hx
        have hxm : x.m ∈ L.map IT.m := by rw [← HMX.out]; exact List.mem_map.2 ⟨x, hmem, rfl⟩
        have HU : Hid (Hung (L.map IT.m) x.m) := hung_of HGd.out HNoD.out (by rw [List.length_map]; have := HLL.out; omega) hxm
        have hok : SOk x.m.n ∧ SOk x.m.p := by
          obtain ⟨y, hy, e⟩ := List.mem_map.1 hxm
          have := HP3.out.ok y hy
          rw [← e]
          exact ⟨this.1, this.2.1⟩
        obtain ⟨b1, o1, rfl, hc⟩ := (HX3.out.below HB.out).at ic_len hx
        have HCi : Hid (∀ w', Below wr.heap.size wr w' → w'.rangeAt b1 (o1 + k * 10) (ic x)) := fun w' hb => by
          obtain ⟨b1', o1', e1, h1⟩ := (HX3.out.below (bnext HB.out hb)).at ic_len hx
          cases e1
          exact h1
        have HCn : Hid (∀ w', Below wr.heap.size wr w' → w'.rangeAt b1 (o1 + k * 10) (sc x.m.n)) := fun w' hb => (range_sub (HCi.out w' hb)).1
        have HCp : Hid (∀ w', Below wr.heap.size wr w' → w'.rangeAt b1 (o1 + k * 10 + 2) (sc x.m.p)) := fun w' hb => (range_sub (HCi.out w' hb)).2
        have HVn : Hid (x.vn = x.m.b.length) := by
          obtain ⟨_, a, cap, e, _⟩ := (HOw.out x hmem).rd
          unfold IT.v at e
          injection e
        have HPr : Hid (∀ w', Below wr.heap.size wr w' → PTr w' tb mo L) := fun w' hb => HP3.out.below (bnext HB.out hb)
        have HW1 : Hid (∀ w', Below wr.heap.size wr w' → Calls Try.prog 21 #[ptr tb, sv x.m.n, sv x.m.p] w' fun e w'' => e = .returned (.bool false) ∧ Below w'.heap.size w' w'') := fun w' hb => by
          have := within21 (HPr.out w' hb) hok.1 hok.2
          rwa [HU.out.w1] at this
        have HW2 : Hid (∀ w', Below wr.heap.size wr w' → Calls Try.prog 21 #[ptr tb, sv (0, 0), sv x.m.n] w' fun e w'' => e = .returned (.bool true) ∧ Below w'.heap.size w' w'') := fun w' hb => by
          have := within21 (HPr.out w' hb) zero_ok hok.1
          rwa [HU.out.w2] at this
        have HGt : Hid (∀ w', Below wr.heap.size wr w' → Calls Try.prog 19 #[ptr tb, sv x.m.p] w' fun e w'' => ∃ y b, e = .returned (.tuple #[iv y, .bool b]) ∧ GotC w'.heap.size w'' L x.m.p y b ∧ Below w'.heap.size w' w'') := fun w' hb => get19 (HPr.out w' hb) hok.2
        have HH1 : Hid (∀ w', Below wr.heap.size wr w' → Calls Try.prog 23 #[ptr tb, sv x.m.n] w' fun e w'' => e = .returned (.bool (!x.m.g && phangsM (L.map IT.m) x.m.p)) ∧ Below w'.heap.size w' w'') := fun w' hb => by
          have := hangs23 (HPr.out w' hb) hok.1
          rwa [HU.out.hg] at this
        have HH2 : Hid (∀ w', Below wr.heap.size wr w' → Calls Try.prog 23 #[ptr tb, sv x.m.p] w' fun e w'' => e = .returned (.bool (phangsM (L.map IT.m) x.m.p)) ∧ Below w'.heap.size w' w'') := fun w' hb => hangs23 (HPr.out w' hb) hok.2
        generalize phangsM (L.map IT.m) x.m.p = hp at HH1 HH2
        clear hx hmem hxm hok hc
        go_upto_region 8 with fail
        have ne : Nonempty (WIn (fun w' => Below wr.heap.size wr w')) := ⟨⟨wr.drew, below_drewn wr 1⟩⟩
        refine wp_region_ord (C := fun w' => ∃ z : WIn (fun w' => Below wr.heap.size wr w'), w' = z.w) [(false, 0), (false, 1), (false, 2), (false, 3), (false, 4), (false, 5), (false, 6), (false, 7), (false, 8), (false, 9), (false, 10), (true, 11), (false, 12), (false, 13), (false, 14), (false, 15), (false, 16), (false, 17), (false, 18), (false, 19), (true, 20), (false, 21), (false, 22)] (by kernel_rfl) (by kernel_rfl) ⟨⟨wr.drew, below_drewn wr 1⟩, rfl⟩ ?_
        iterate 5 (refine ord_still rfl rfl ?_; go_big_quiet_step (fail); refine wpQuiet_nil ?_)
        refine ord_still rfl rfl ?_
        refine quiet_ok1 rfl (fun w' hw' => by obtain ⟨z, rfl⟩ := hw'; exact exec_load24n (n := x.m.n) (.tmp 26) rfl rfl ((HCn.out z.w z.ok))) ?_
        go_simp
        iterate 4 (refine ord_still rfl rfl ?_; go_big_quiet_step (fail); refine wpQuiet_nil ?_)
        refine ord_still rfl rfl ?_
        refine quiet_ok1 rfl (fun w' hw' => by obtain ⟨z, rfl⟩ := hw'; exact exec_load24n (n := x.m.p) (.tmp 31) rfl rfl ((HCp.out z.w z.ok))) ?_
        go_simp
        refine ord_mem rfl rfl ?_
        go_simp
        refine (HW1.out _ (below_drewn wr 1)).mono ?_
        rintro r w5 ⟨rfl, hb⟩
        have HB5 : Hid (Below wr.heap.size wr w5) := bnext (below_drewn wr 1) hb
        clear hb
        refine ⟨⟨⟨w5, HB5.out⟩, rfl⟩, ?_⟩
        go_simp
        iterate 7 (refine ord_still rfl rfl ?_; go_big_quiet_step (fail); refine wpQuiet_nil ?_)
        refine ord_still rfl rfl ?_
        refine quiet_ok1 rfl (fun w' hw' => by obtain ⟨z, rfl⟩ := hw'; exact exec_load24n (n := x.m.n) (.tmp 40) rfl rfl ((HCn.out z.w z.ok))) ?_
        go_simp
        refine ord_mem rfl rfl ?_
        go_simp
        refine (HW2.out _ HB5.out).mono ?_
        rintro r w6 ⟨rfl, hb⟩
        have HB6 : Hid (Below wr.heap.size wr w6) := bnext HB5.out hb
        clear hb
        refine ⟨⟨⟨w6, HB6.out⟩, rfl⟩, ?_⟩
        go_simp
        iterate 2 (refine ord_still rfl rfl ?_; go_big_quiet_step (fail); refine wpQuiet_nil ?_)
        refine ord_end ?_
        clear ne
        have HCp6 : Hid (w6.rangeAt b1 (o1 + k * 10 + 2) (sc x.m.p)) := HCp.out _ HB6.out
        have tk1 : Hid True := trivial
        have tk2 : Hid True := trivial
        have tk3 : Hid True := trivial
        clear HW1 HW2 HB5
        go_upto_region 11 with (first
          | (clear tk1; refine wpList_okw rfl (exec_load24n (n := x.m.p) (.tmp 50) rfl rfl HCp6.out) ?_)
          | (go_at_call 19; go_must (refine (HGt.out _ HB6.out).mono ?_; rintro r w7 ⟨y, b, rfl, hgt, hb7⟩; have HG : Hid (GotC w6.heap.size w7 L x.m.p y b) := hgt; have HB7 : Hid (Below wr.heap.size wr w7) := bnext HB6.out hb7; clear hb7 hgt; obtain ⟨w8, hw8⟩ : ∃ w8, w8 = w7.alloc (.cells (ic zT).toArray 35) := ⟨_, rfl⟩; obtain ⟨g, hg⟩ : ∃ g, g = w7.heap.size := ⟨_, rfl⟩; have HT8 : Hid (w8.there g 0 10) := (show _ from by rw [hw8, hg]; exact (itp_new w7 zT).there); have HW8 : Hid (w8 = w7.alloc (.cells (ic zT).toArray 35)) := hw8; have HGG : Hid (g = w7.heap.size) := hg; clear hw8 hg))
          | (clear tk2; refine wpList_okw rfl (exec_alloc35 rfl) ?_; rw [← HW8.out, ← HGG.out])
          | (clear tk3; refine wpList_skipw rfl (exec_store35 (q := y) (.tmp 6) (.tmp 53) rfl rfl rfl HT8.out) ?_; obtain ⟨wx, hwx⟩ : ∃ wx, wx = w8.setCells g 0 (ic y) := ⟨_, rfl⟩; rw [← hwx]; obtain ⟨i1, i2, i3, i4⟩ := item_putp HB7.out HW8.out HGG.out hwx; have HIx : Hid (Itp wx g y) := i1; have HBx : Hid (Below wr.heap.size wr wx) := i2; clear hwx i1 i2 i3 i4 HT8 HW8 HGG))
        have HCpx : Hid (wx.rangeAt b1 (o1 + k * 10 + 2) (sc x.m.p)) := HCp.out _ HBx.out
        have y5 := Blk.cell HIx.out 5 _ rfl
        have hY : ¬ x.m.p = (0, 0) → b = true ∧ y.m.d = true := fun hne => by
          obtain ⟨u, hu, hud⟩ := HU.out.par.resolve_left hne
          have h1 := HG.out.is
          have h2 := HG.out.m
          rw [hu] at h1 h2
          exact ⟨h1, by rw [h2]; exact hud⟩
        clear HCp6 HGt HG HB7
        have HUx : Hid (Hung (L.map IT.m) x.m) := HU.out
        clear HU
        have tk4 : Hid True := trivial
        cases hE : decide (x.m.p = (0, 0))
        case' false =>
          obtain ⟨rfl, hyd⟩ := hY (of_decide_eq_false hE)
          rw [hyd] at y5
          have HE : Hid (decide (x.m.p = (0, 0)) = false) := hE
          clear hyd hY hE
        case' true =>
          have HE : Hid (decide (x.m.p = (0, 0)) = true) := hE
          clear hY hE
        all_goals
          go_upto_region 13 with (first
            | (refine wpList_okw rfl (exec_load24n (n := x.m.p) (.tmp 58) rfl rfl HCpx.out) ?_)
            | (clear tk4; refine wpList_okw rfl (exec_neq24 (a := x.m.p) (b := (0, 0)) (.tmp 59) (.tmp 60) rfl rfl rfl) ?_; rw [HE.out]))
          clear y5
          have HVz : Hid (x.m.d = true → x.vn = 0) := fun h => by rw [HVn.out, HUx.out.nod h]; rfl
          clear HUx HVn HCpx HIx
          have c5 := fun z : WIn (fun w' => Below wx.heap.size wx w') => (HCi.out z.w (bnext HBx.out z.ok)) 5 _ rfl
          have c6 := fun z : WIn (fun w' => Below wx.heap.size wx w') => (HCi.out z.w (bnext HBx.out z.ok)) 6 _ rfl
          have c7 := fun z : WIn (fun w' => Below wx.heap.size wx w') => (HCi.out z.w (bnext HBx.out z.ok)) 7 _ rfl
          cases hg : x.m.g
          · rw [hg] at c6 HH1
            clear hg
            cases hd : x.m.d
            · rw [hd] at c5
              clear hd HVz
              cases hp
              · rw [show ((!false) && false) = false from rfl] at HH1
                have ne : Nonempty (WIn (fun w' => Below wx.heap.size wx w')) := ⟨⟨wx.drew, below_drewn wx 1⟩⟩
                refine wp_region_ord (C := fun w' => ∃ z : WIn (fun w' => Below wx.heap.size wx w'), w' = z.w) [(false, 0), (false, 1), (false, 2), (false, 3), (false, 4), (false, 5), (false, 7), (false, 8), (false, 9), (false, 10), (false, 11), (false, 12), (true, 6), (false, 13), (false, 14), (false, 15), (false, 16), (false, 17), (false, 18), (false, 19), (true, 20), (false, 21), (false, 22), (false, 23), (false, 24), (false, 25), (false, 26), (false, 27), (false, 28), (false, 29), (false, 30), (false, 31), (false, 32), (false, 33), (false, 34), (false, 35), (false, 36), (false, 37), (false, 38)] (by kernel_rfl) (by kernel_rfl) ⟨⟨wx.drew, below_drewn wx 1⟩, rfl⟩ ?_
                iterate 5 (first | (refine ord_still rfl rfl ?_; go_big_quiet_step (fail); refine wpQuiet_nil ?_) | (refine ord_shut rfl rfl ?_; go_big_quiet_step (fail); refine wpQuiet_nil ?_))
                refine ord_still rfl rfl ?_
                refine quiet_ok1 rfl (fun w' hw' => by obtain ⟨z, rfl⟩ := hw'; exact exec_load24n (n := x.m.n) (.tmp 75) rfl rfl ((HCn.out z.w (bnext HBx.out z.ok)))) ?_
                go_simp
                iterate 6 (first | (refine ord_still rfl rfl ?_; go_big_quiet_step (fail); refine wpQuiet_nil ?_) | (refine ord_shut rfl rfl ?_; go_big_quiet_step (fail); refine wpQuiet_nil ?_))
                refine ord_mem rfl rfl ?_
                go_simp
                refine (HH1.out _ (bnext HBx.out (below_drewn wx 1))).mono ?_
                rintro r w5 ⟨rfl, hb⟩
                have HB5 : Hid (Below wx.heap.size wx w5) := bnext (below_drewn wx 1) hb
                clear hb
                refine ⟨⟨⟨w5, HB5.out⟩, rfl⟩, ?_⟩
                go_simp
                iterate 6 (first | (refine ord_still rfl rfl ?_; go_big_quiet_step (fail); refine wpQuiet_nil ?_) | (refine ord_shut rfl rfl ?_; go_big_quiet_step (fail); refine wpQuiet_nil ?_))
                refine ord_still rfl rfl ?_
                refine quiet_ok1 rfl (fun w' hw' => by obtain ⟨z, rfl⟩ := hw'; exact exec_load24n (n := x.m.p) (.tmp 89) rfl rfl ((HCp.out z.w (bnext HBx.out z.ok)))) ?_
                go_simp
                refine ord_mem rfl rfl ?_
                go_simp
                refine (HH2.out _ (bnext HBx.out HB5.out)).mono ?_
                rintro r w6 ⟨rfl, hb⟩
                have HB6 : Hid (Below wx.heap.size wx w6) := bnext HB5.out hb
                clear hb
                refine ⟨⟨⟨w6, HB6.out⟩, rfl⟩, ?_⟩
                go_simp
                iterate 18 (first | (refine ord_still rfl rfl ?_; go_big_quiet_step (fail); refine wpQuiet_nil ?_) | (refine ord_shut rfl rfl ?_; go_big_quiet_step (fail); refine wpQuiet_nil ?_))
                refine ord_end ?_
                clear ne
                clear c5 c6 c7
                go_wp2
                go_roundw
                case rel => exact ⟨k + 1, by go_num, by omega, bnext HB.out (bnext HBx.out HB6.out)⟩
                case measure => simp [intOf]; omega
              · rw [show ((!false) && true) = true from rfl] at HH1
                have ne : Nonempty (WIn (fun w' => Below wx.heap.size wx w')) := ⟨⟨wx.drew, below_drewn wx 1⟩⟩
                refine wp_region_ord (C := fun w' => ∃ z : WIn (fun w' => Below wx.heap.size wx w'), w' = z.w) [(false, 0), (false, 1), (false, 2), (false, 3), (false, 4), (false, 5), (false, 7), (false, 8), (false, 9), (false, 10), (false, 11), (false, 12), (true, 6), (false, 13), (false, 14), (false, 15), (false, 16), (false, 17), (false, 18), (false, 19), (true, 20), (false, 21), (false, 22), (false, 23), (false, 24), (false, 25), (false, 26), (false, 27), (false, 28), (false, 29), (false, 30), (false, 31), (false, 32), (false, 33), (false, 34), (false, 35), (false, 36), (false, 37), (false, 38)] (by kernel_rfl) (by kernel_rfl) ⟨⟨wx.drew, below_drewn wx 1⟩, rfl⟩ ?_
                iterate 5 (first | (refine ord_still rfl rfl ?_; go_big_quiet_step (fail); refine wpQuiet_nil ?_) | (refine ord_shut rfl rfl ?_; go_big_quiet_step (fail); refine wpQuiet_nil ?_))
                refine ord_still rfl rfl ?_
                refine quiet_ok1 rfl (fun w' hw' => by obtain ⟨z, rfl⟩ := hw'; exact exec_load24n (n := x.m.n) (.tmp 75) rfl rfl ((HCn.out z.w (bnext HBx.out z.ok)))) ?_
                go_simp
                iterate 6 (first | (refine ord_still rfl rfl ?_; go_big_quiet_step (fail); refine wpQuiet_nil ?_) | (refine ord_shut rfl rfl ?_; go_big_quiet_step (fail); refine wpQuiet_nil ?_))
                refine ord_mem rfl rfl ?_
                go_simp
                refine (HH1.out _ (bnext HBx.out (below_drewn wx 1))).mono ?_
                rintro r w5 ⟨rfl, hb⟩
                have HB5 : Hid (Below wx.heap.size wx w5) := bnext (below_drewn wx 1) hb
                clear hb
                refine ⟨⟨⟨w5, HB5.out⟩, rfl⟩, ?_⟩
                go_simp
                iterate 6 (first | (refine ord_still rfl rfl ?_; go_big_quiet_step (fail); refine wpQuiet_nil ?_) | (refine ord_shut rfl rfl ?_; go_big_quiet_step (fail); refine wpQuiet_nil ?_))
                refine ord_still rfl rfl ?_
                refine quiet_ok1 rfl (fun w' hw' => by obtain ⟨z, rfl⟩ := hw'; exact exec_load24n (n := x.m.p) (.tmp 89) rfl rfl ((HCp.out z.w (bnext HBx.out z.ok)))) ?_
                go_simp
                refine ord_mem rfl rfl ?_
                go_simp
                refine (HH2.out _ (bnext HBx.out HB5.out)).mono ?_
                rintro r w6 ⟨rfl, hb⟩
                have HB6 : Hid (Below wx.heap.size wx w6) := bnext HB5.out hb
                clear hb
                refine ⟨⟨⟨w6, HB6.out⟩, rfl⟩, ?_⟩
                go_simp
                iterate 18 (first | (refine ord_still rfl rfl ?_; go_big_quiet_step (fail); refine wpQuiet_nil ?_) | (refine ord_shut rfl rfl ?_; go_big_quiet_step (fail); refine wpQuiet_nil ?_))
                refine ord_end ?_
                clear ne
                clear c5 c6 c7
                go_wp2
                go_roundw
                case rel => exact ⟨k + 1, by go_num, by omega, bnext HB.out (bnext HBx.out HB6.out)⟩
                case measure => simp [intOf]; omega
            · rw [HVz.out hd] at c7
              rw [hd] at c5
              clear hd HVz
              cases hp
              · rw [show ((!false) && false) = false from rfl] at HH1
                have ne : Nonempty (WIn (fun w' => Below wx.heap.size wx w')) := ⟨⟨wx.drew, below_drewn wx 1⟩⟩
                refine wp_region_ord (C := fun w' => ∃ z : WIn (fun w' => Below wx.heap.size wx w'), w' = z.w) [(false, 0), (false, 1), (false, 2), (false, 3), (false, 4), (false, 5), (false, 7), (false, 8), (false, 9), (false, 10), (false, 11), (false, 12), (true, 6), (false, 13), (false, 14), (false, 15), (false, 16), (false, 17), (false, 18), (false, 19), (true, 20), (false, 21), (false, 22), (false, 23), (false, 24), (false, 25), (false, 26), (false, 27), (false, 28), (false, 29), (false, 30), (false, 31), (false, 32), (false, 33), (false, 34), (false, 35), (false, 36), (false, 37), (false, 38)] (by kernel_rfl) (by kernel_rfl) ⟨⟨wx.drew, below_drewn wx 1⟩, rfl⟩ ?_
                iterate 5 (first | (refine ord_still rfl rfl ?_; go_big_quiet_step (fail); refine wpQuiet_nil ?_) | (refine ord_shut rfl rfl ?_; go_big_quiet_step (fail); refine wpQuiet_nil ?_))
                refine ord_still rfl rfl ?_
                refine quiet_ok1 rfl (fun w' hw' => by obtain ⟨z, rfl⟩ := hw'; exact exec_load24n (n := x.m.n) (.tmp 75) rfl rfl ((HCn.out z.w (bnext HBx.out z.ok)))) ?_
                go_simp
                iterate 6 (first | (refine ord_still rfl rfl ?_; go_big_quiet_step (fail); refine wpQuiet_nil ?_) | (refine ord_shut rfl rfl ?_; go_big_quiet_step (fail); refine wpQuiet_nil ?_))
                refine ord_mem rfl rfl ?_
                go_simp
                refine (HH1.out _ (bnext HBx.out (below_drewn wx 1))).mono ?_
                rintro r w5 ⟨rfl, hb⟩
                have HB5 : Hid (Below wx.heap.size wx w5) := bnext (below_drewn wx 1) hb
                clear hb
                refine ⟨⟨⟨w5, HB5.out⟩, rfl⟩, ?_⟩
                go_simp
                iterate 6 (first | (refine ord_still rfl rfl ?_; go_big_quiet_step (fail); refine wpQuiet_nil ?_) | (refine ord_shut rfl rfl ?_; go_big_quiet_step (fail); refine wpQuiet_nil ?_))
                refine ord_still rfl rfl ?_
                refine quiet_ok1 rfl (fun w' hw' => by obtain ⟨z, rfl⟩ := hw'; exact exec_load24n (n := x.m.p) (.tmp 89) rfl rfl ((HCp.out z.w (bnext HBx.out z.ok)))) ?_
                go_simp
                refine ord_mem rfl rfl ?_
                go_simp
                refine (HH2.out _ (bnext HBx.out HB5.out)).mono ?_
                rintro r w6 ⟨rfl, hb⟩
                have HB6 : Hid (Below wx.heap.size wx w6) := bnext HB5.out hb
                clear hb
                refine ⟨⟨⟨w6, HB6.out⟩, rfl⟩, ?_⟩
                go_simp
                iterate 18 (first | (refine ord_still rfl rfl ?_; go_big_quiet_step (fail); refine wpQuiet_nil ?_) | (refine ord_shut rfl rfl ?_; go_big_quiet_step (fail); refine wpQuiet_nil ?_))
                refine ord_end ?_
                clear ne
                clear c5 c6 c7
                go_wp2
                go_roundw
                case rel => exact ⟨k + 1, by go_num, by omega, bnext HB.out (bnext HBx.out HB6.out)⟩
                case measure => simp [intOf]; omega
              · rw [show ((!false) && true) = true from rfl] at HH1
                have ne : Nonempty (WIn (fun w' => Below wx.heap.size wx w')) := ⟨⟨wx.drew, below_drewn wx 1⟩⟩
                refine wp_region_ord (C := fun w' => ∃ z : WIn (fun w' => Below wx.heap.size wx w'), w' = z.w) [(false, 0), (false, 1), (false, 2), (false, 3), (false, 4), (false, 5), (false, 7), (false, 8), (false, 9), (false, 10), (false, 11), (false, 12), (true, 6), (false, 13), (false, 14), (false, 15), (false, 16), (false, 17), (false, 18), (false, 19), (true, 20), (false, 21), (false, 22), (false, 23), (false, 24), (false, 25), (false, 26), (false, 27), (false, 28), (false, 29), (false, 30), (false, 31), (false, 32), (false, 33), (false, 34), (false, 35), (false, 36), (false, 37), (false, 38)] (by kernel_rfl) (by kernel_rfl) ⟨⟨wx.drew, below_drewn wx 1⟩, rfl⟩ ?_
                iterate 5 (first | (refine ord_still rfl rfl ?_; go_big_quiet_step (fail); refine wpQuiet_nil ?_) | (refine ord_shut rfl rfl ?_; go_big_quiet_step (fail); refine wpQuiet_nil ?_))
                refine ord_still rfl rfl ?_
                refine quiet_ok1 rfl (fun w' hw' => by obtain ⟨z, rfl⟩ := hw'; exact exec_load24n (n := x.m.n) (.tmp 75) rfl rfl ((HCn.out z.w (bnext HBx.out z.ok)))) ?_
                go_simp
                iterate 6 (first | (refine ord_still rfl rfl ?_; go_big_quiet_step (fail); refine wpQuiet_nil ?_) | (refine ord_shut rfl rfl ?_; go_big_quiet_step (fail); refine wpQuiet_nil ?_))
                refine ord_mem rfl rfl ?_
                go_simp
                refine (HH1.out _ (bnext HBx.out (below_drewn wx 1))).mono ?_
                rintro r w5 ⟨rfl, hb⟩
                have HB5 : Hid (Below wx.heap.size wx w5) := bnext (below_drewn wx 1) hb
                clear hb
                refine ⟨⟨⟨w5, HB5.out⟩, rfl⟩, ?_⟩
                go_simp
                iterate 6 (first | (refine ord_still rfl rfl ?_; go_big_quiet_step (fail); refine wpQuiet_nil ?_) | (refine ord_shut rfl rfl ?_; go_big_quiet_step (fail); refine wpQuiet_nil ?_))
                refine ord_still rfl rfl ?_
                refine quiet_ok1 rfl (fun w' hw' => by obtain ⟨z, rfl⟩ := hw'; exact exec_load24n (n := x.m.p) (.tmp 89) rfl rfl ((HCp.out z.w (bnext HBx.out z.ok)))) ?_
                go_simp
                refine ord_mem rfl rfl ?_
                go_simp
                refine (HH2.out _ (bnext HBx.out HB5.out)).mono ?_
                rintro r w6 ⟨rfl, hb⟩
                have HB6 : Hid (Below wx.heap.size wx w6) := bnext HB5.out hb
                clear hb
                refine ⟨⟨⟨w6, HB6.out⟩, rfl⟩, ?_⟩
                go_simp
                iterate 18 (first | (refine ord_still rfl rfl ?_; go_big_quiet_step (fail); refine wpQuiet_nil ?_) | (refine ord_shut rfl rfl ?_; go_big_quiet_step (fail); refine wpQuiet_nil ?_))
                refine ord_end ?_
                clear ne
                clear c5 c6 c7
                go_wp2
                go_roundw
                case rel => exact ⟨k + 1, by go_num, by omega, bnext HB.out (bnext HBx.out HB6.out)⟩
                case measure => simp [intOf]; omega
          · rw [hg] at c6 HH1
            clear hg
            cases hd : x.m.d
            · rw [hd] at c5
              clear hd HVz
              cases hp
              · rw [show ((!true) && false) = false from rfl] at HH1
                have ne : Nonempty (WIn (fun w' => Below wx.heap.size wx w')) := ⟨⟨wx.drew, below_drewn wx 1⟩⟩
                refine wp_region_ord (C := fun w' => ∃ z : WIn (fun w' => Below wx.heap.size wx w'), w' = z.w) [(false, 0), (false, 1), (false, 2), (false, 3), (false, 4), (false, 5), (false, 7), (false, 8), (false, 9), (false, 10), (false, 11), (false, 12), (true, 6), (false, 13), (false, 14), (false, 15), (false, 16), (false, 17), (false, 18), (false, 19), (false, 20), (false, 21), (false, 22), (false, 23), (false, 24), (false, 25), (false, 26), (false, 27), (false, 28), (false, 29), (false, 30), (false, 31), (false, 32), (false, 33), (false, 34), (false, 35), (false, 36), (false, 37), (false, 38)] (by kernel_rfl) (by kernel_rfl) ⟨⟨wx.drew, below_drewn wx 1⟩, rfl⟩ ?_
                iterate 5 (first | (refine ord_still rfl rfl ?_; go_big_quiet_step (fail); refine wpQuiet_nil ?_) | (refine ord_shut rfl rfl ?_; go_big_quiet_step (fail); refine wpQuiet_nil ?_))
                refine ord_still rfl rfl ?_
                refine quiet_ok1 rfl (fun w' hw' => by obtain ⟨z, rfl⟩ := hw'; exact exec_load24n (n := x.m.n) (.tmp 75) rfl rfl ((HCn.out z.w (bnext HBx.out z.ok)))) ?_
                go_simp
                iterate 6 (first | (refine ord_still rfl rfl ?_; go_big_quiet_step (fail); refine wpQuiet_nil ?_) | (refine ord_shut rfl rfl ?_; go_big_quiet_step (fail); refine wpQuiet_nil ?_))
                refine ord_mem rfl rfl ?_
                go_simp
                refine (HH1.out _ (bnext HBx.out (below_drewn wx 1))).mono ?_
                rintro r w5 ⟨rfl, hb⟩
                have HB5 : Hid (Below wx.heap.size wx w5) := bnext (below_drewn wx 1) hb
                clear hb
                refine ⟨⟨⟨w5, HB5.out⟩, rfl⟩, ?_⟩
                go_simp
                iterate 26 (first | (refine ord_still rfl rfl ?_; go_big_quiet_step (fail); refine wpQuiet_nil ?_) | (refine ord_shut rfl rfl ?_; go_big_quiet_step (fail); refine wpQuiet_nil ?_))
                refine ord_end ?_
                clear ne
                clear c5 c6 c7
                go_wp2
                go_roundw
                case rel => exact ⟨k + 1, by go_num, by omega, bnext HB.out (bnext HBx.out HB5.out)⟩
                case measure => simp [intOf]; omega
              · rw [show ((!true) && true) = false from rfl] at HH1
                have ne : Nonempty (WIn (fun w' => Below wx.heap.size wx w')) := ⟨⟨wx.drew, below_drewn wx 1⟩⟩
                refine wp_region_ord (C := fun w' => ∃ z : WIn (fun w' => Below wx.heap.size wx w'), w' = z.w) [(false, 0), (false, 1), (false, 2), (false, 3), (false, 4), (false, 5), (false, 7), (false, 8), (false, 9), (false, 10), (false, 11), (false, 12), (true, 6), (false, 13), (false, 14), (false, 15), (false, 16), (false, 17), (false, 18), (false, 19), (false, 20), (false, 21), (false, 22), (false, 23), (false, 24), (false, 25), (false, 26), (false, 27), (false, 28), (false, 29), (false, 30), (false, 31), (false, 32), (false, 33), (false, 34), (false, 35), (false, 36), (false, 37), (false, 38)] (by kernel_rfl) (by kernel_rfl) ⟨⟨wx.drew, below_drewn wx 1⟩, rfl⟩ ?_
                iterate 5 (first | (refine ord_still rfl rfl ?_; go_big_quiet_step (fail); refine wpQuiet_nil ?_) | (refine ord_shut rfl rfl ?_; go_big_quiet_step (fail); refine wpQuiet_nil ?_))
                refine ord_still rfl rfl ?_
                refine quiet_ok1 rfl (fun w' hw' => by obtain ⟨z, rfl⟩ := hw'; exact exec_load24n (n := x.m.n) (.tmp 75) rfl rfl ((HCn.out z.w (bnext HBx.out z.ok)))) ?_
                go_simp
                iterate 6 (first | (refine ord_still rfl rfl ?_; go_big_quiet_step (fail); refine wpQuiet_nil ?_) | (refine ord_shut rfl rfl ?_; go_big_quiet_step (fail); refine wpQuiet_nil ?_))
                refine ord_mem rfl rfl ?_
                go_simp
                refine (HH1.out _ (bnext HBx.out (below_drewn wx 1))).mono ?_
                rintro r w5 ⟨rfl, hb⟩
                have HB5 : Hid (Below wx.heap.size wx w5) := bnext (below_drewn wx 1) hb
                clear hb
                refine ⟨⟨⟨w5, HB5.out⟩, rfl⟩, ?_⟩
                go_simp
                iterate 26 (first | (refine ord_still rfl rfl ?_; go_big_quiet_step (fail); refine wpQuiet_nil ?_) | (refine ord_shut rfl rfl ?_; go_big_quiet_step (fail); refine wpQuiet_nil ?_))
                refine ord_end ?_
                clear ne
                clear c5 c6 c7
                go_wp2
                go_roundw
                case rel => exact ⟨k + 1, by go_num, by omega, bnext HB.out (bnext HBx.out HB5.out)⟩
                case measure => simp [intOf]; omega
            · rw [HVz.out hd] at c7
              rw [hd] at c5
              clear hd HVz
              cases hp
              · rw [show ((!true) && false) = false from rfl] at HH1
                have ne : Nonempty (WIn (fun w' => Below wx.heap.size wx w')) := ⟨⟨wx.drew, below_drewn wx 1⟩⟩
                refine wp_region_ord (C := fun w' => ∃ z : WIn (fun w' => Below wx.heap.size wx w'), w' = z.w) [(false, 0), (false, 1), (false, 2), (false, 3), (false, 4), (false, 5), (false, 7), (false, 8), (false, 9), (false, 10), (false, 11), (false, 12), (true, 6), (false, 13), (false, 14), (false, 15), (false, 16), (false, 17), (false, 18), (false, 19), (false, 20), (false, 21), (false, 22), (false, 23), (false, 24), (false, 25), (false, 26), (false, 27), (false, 28), (false, 29), (false, 30), (false, 31), (false, 32), (false, 33), (false, 34), (false, 35), (false, 36), (false, 37), (false, 38)] (by kernel_rfl) (by kernel_rfl) ⟨⟨wx.drew, below_drewn wx 1⟩, rfl⟩ ?_
                iterate 5 (first | (refine ord_still rfl rfl ?_; go_big_quiet_step (fail); refine wpQuiet_nil ?_) | (refine ord_shut rfl rfl ?_; go_big_quiet_step (fail); refine wpQuiet_nil ?_))
                refine ord_still rfl rfl ?_
                refine quiet_ok1 rfl (fun w' hw' => by obtain ⟨z, rfl⟩ := hw'; exact exec_load24n (n := x.m.n) (.tmp 75) rfl rfl ((HCn.out z.w (bnext HBx.out z.ok)))) ?_
                go_simp
                iterate 6 (first | (refine ord_still rfl rfl ?_; go_big_quiet_step (fail); refine wpQuiet_nil ?_) | (refine ord_shut rfl rfl ?_; go_big_quiet_step (fail); refine wpQuiet_nil ?_))
                refine ord_mem rfl rfl ?_
                go_simp
                refine (HH1.out _ (bnext HBx.out (below_drewn wx 1))).mono ?_
                rintro r w5 ⟨rfl, hb⟩
                have HB5 : Hid (Below wx.heap.size wx w5) := bnext (below_drewn wx 1) hb
                clear hb
                refine ⟨⟨⟨w5, HB5.out⟩, rfl⟩, ?_⟩
                go_simp
                iterate 26 (first | (refine ord_still rfl rfl ?_; go_big_quiet_step (fail); refine wpQuiet_nil ?_) | (refine ord_shut rfl rfl ?_; go_big_quiet_step (fail); refine wpQuiet_nil ?_))
                refine ord_end ?_
                clear ne
                clear c5 c6 c7
                go_wp2
                go_roundw
                case rel => exact ⟨k + 1, by go_num, by omega, bnext HB.out (bnext HBx.out HB5.out)⟩
                case measure => simp [intOf]; omega
              · rw [show ((!true) && true) = false from rfl] at HH1
                have ne : Nonempty (WIn (fun w' => Below wx.heap.size wx w')) := ⟨⟨wx.drew, below_drewn wx 1⟩⟩
                refine wp_region_ord (C := fun w' => ∃ z : WIn (fun w' => Below wx.heap.size wx w'), w' = z.w) [(false, 0), (false, 1), (false, 2), (false, 3), (false, 4), (false, 5), (false, 7), (false, 8), (false, 9), (false, 10), (false, 11), (false, 12), (true, 6), (false, 13), (false, 14), (false, 15), (false, 16), (false, 17), (false, 18), (false, 19), (false, 20), (false, 21), (false, 22), (false, 23), (false, 24), (false, 25), (false, 26), (false, 27), (false, 28), (false, 29), (false, 30), (false, 31), (false, 32), (false, 33), (false, 34), (false, 35), (false, 36), (false, 37), (false, 38)] (by kernel_rfl) (by kernel_rfl) ⟨⟨wx.drew, below_drewn wx 1⟩, rfl⟩ ?_
                iterate 5 (first | (refine ord_still rfl rfl ?_; go_big_quiet_step (fail); refine wpQuiet_nil ?_) | (refine ord_shut rfl rfl ?_; go_big_quiet_step (fail); refine wpQuiet_nil ?_))
                refine ord_still rfl rfl ?_
                refine quiet_ok1 rfl (fun w' hw' => by obtain ⟨z, rfl⟩ := hw'; exact exec_load24n (n := x.m.n) (.tmp 75) rfl rfl ((HCn.out z.w (bnext HBx.out z.ok)))) ?_
                go_simp
                iterate 6 (first | (refine ord_still rfl rfl ?_; go_big_quiet_step (fail); refine wpQuiet_nil ?_) | (refine ord_shut rfl rfl ?_; go_big_quiet_step (fail); refine wpQuiet_nil ?_))
                refine ord_mem rfl rfl ?_
                go_simp
                refine (HH1.out _ (bnext HBx.out (below_drewn wx 1))).mono ?_
                rintro r w5 ⟨rfl, hb⟩
                have HB5 : Hid (Below wx.heap.size wx w5) := bnext (below_drewn wx 1) hb
                clear hb
                refine ⟨⟨⟨w5, HB5.out⟩, rfl⟩, ?_⟩
                go_simp
                iterate 26 (first | (refine ord_still rfl rfl ?_; go_big_quiet_step (fail); refine wpQuiet_nil ?_) | (refine ord_shut rfl rfl ?_; go_big_quiet_step (fail); refine wpQuiet_nil ?_))
                refine ord_end ?_
                clear ne
                clear c5 c6 c7
                go_wp2
                go_roundw
                case rel => exact ⟨k + 1, by go_num, by omega, bnext HB.out (bnext HBx.out HB5.out)⟩
                case measure => simp [intOf]; omega
      · have hkI : ¬ (k : Int) < (N : Int) := by omega
        have HR0 : Hid (∀ w', Below w3.heap.size w3 w' → Calls Try.prog 23 #[ptr tb, sv (0, 0)] w' fun e w'' => e = .returned (.bool true) ∧ Below w'.heap.size w' w'') := fun w' hb => hangs23 (HP3.out.below hb) zero_ok
        unfold sv at HR0
        dsimp only at HR0
        go_wp2_with (first
          | (go_at_call 23; go_must (refine (HR0.out _ HB.out).mono ?_; rintro e w5 ⟨rfl, hb5⟩; have HB5 : Hid (Below w3.heap.size w3 w5) := bnext HB.out hb5; clear hb5))
          | (go_at_call 9; go_must (refine (HAl.out _).mono ?_; rintro e w6 ⟨rfl, hb6⟩; have HB6 : Hid (Below w3.heap.size w3 w6) := bnext HB5.out hb6; clear hb6)))
        go_ret
        exact ⟨rfl, bnext HBz.out HB6.out⟩
end Go.Proofs.Ytjlpdoomchkfgaa
