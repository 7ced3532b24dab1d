/-
  The law's own: an item, and items, of the program as the document's.
  Items that are alike, and lists of them, by the reference.
  What the law of plays leans on: rows handed out, Has by lists, the inner loop's memberships.
-/
import Derived.Test.YthnjbjlhfohpfaaGreatTsF
import Derived.Test.YthnjbjlhfohpfaaGreatTrG
import Derived.Test.YthnjbjlhfohpfaaGreatWirP
import Derived.Test.YthnjbjlhfohpfaaGreatPlA
import Derived.Test.YthnjbjlhfohpfaaGreatArgO
import Derived.Test.YthnjbjlhfohpfaaGreatLgt
import Derived.Test.YthnjbjlhfohpfaaGreatUdE
import Derived.Test.YthnjbjlhfohpfaaGreatUdV
import Derived.Test.YthnjbjlhfohpfaaGreatUdW
import Derived.Test.YthnjbjlhfohpfaaGreatRfR
import Derived.Test.YthnjbjlhfohpfaaGreatTsG
namespace Go.Proofs.YthnjbjlhfohpfaaGreat
section
set_option linter.unusedVariables false
set_option linter.unusedSimpArgs false
set_option synthInstance.maxSize 20000
set_option maxHeartbeats 2000000
set_option maxRecDepth 20000
open Go.RowKit Go.Maps

theorem exec_item41 {o : Oper} {r : Operand → Value} {w : World} {x : IT} (x0 x1 x2 x3 x4 x5 x6 : Operand) (ho : o.op = .build 76 #[(0, x0), (1, x1), (2, x2), (3, x3), (4, x4), (5, x5), (6, x6)]) (h0 : r x0 = sv x.m.n) (h1 : r x1 = sv x.m.p) (h2 : r x2 = .string x.m.s) (h3 : r x3 = .bool x.m.d) (h4 : r x4 = .bool x.m.g) (h5 : r x5 = .slice x.a x.vn x.vc) (h6 : r x6 = sv x.m.y) : (execOp r o).run Tryz.prog w = .ok (.value (iv x)) w := by
  obtain ⟨⟨⟨n1, n2⟩, ⟨p1, p2⟩, s, d, g, ⟨y1, y2⟩, b⟩, a, vn, vc⟩ := x
  unfold sv at h0 h1 h6
  unfold iv ic
  dsimp only at *
  unfold execOp
  simp only [ho]
  go_simp
theorem Itp.by {w : World} {b : Nat} {q : IT} (h : Itp w b q) : w.rangeAt b 8 (sc q.m.y) := Blk.range h 8 fun j u hj => by
  match j, hj with
  | 0, hj => exact hj
  | 1, hj => exact hj
  | j + 2, hj => simp [sc] at hj
theorem results14 : Tryz.f30.results = #[.cell 2 76] := rfl
theorem Itb.ret1 {w : World} {b : Nat} {q : IT} {v : Value} (h : Itb w b q) (h1 : v = ptr b) : (((asAddr v).run Tryz.prog w).andThen fun a w₁ => (loadVar 76 a).run Tryz.prog w₁) = .ok (iv q) w := by
  subst h1
  have e1 : (asAddr (ptr b)).run Tryz.prog w = .ok ⟨b, 0, none⟩ w := rfl
  rw [e1]
  simp only [Result.andThen_ok, h.load]
theorem item14 (x : IT) (w : World) : Calls Tryz.prog 30 #[iv x] w fun e w' => e = .returned (iv x) ∧ Below w.heap.size w w' := by
  obtain ⟨w1, hw1⟩ : ∃ w1, w1 = (w.alloc (.cells (ic x).toArray 61)).alloc (.cells (ic zT).toArray 76) := ⟨_, rfl⟩
  obtain ⟨B0, hB0⟩ : ∃ B0, B0 = w.heap.size := ⟨_, rfl⟩
  obtain ⟨B1, hB1⟩ : ∃ B1, B1 = w.heap.size + 1 := ⟨_, rfl⟩
  have HB1 : Hid (Below w.heap.size w w1) := by show Below _ _ _; rw [hw1]; exact balloc (balloc (Below.refl _ _) _) _
  have HX : Hid (Itp w1 B0 x) := by show Itp _ _ _; rw [hw1, hB0]; exact Blk.alloc (itp_new w x) _
  have HZ : Hid (Itb w1 B1 zT) := by
    show Itb _ _ _
    rw [hw1, hB1]
    have := itb_new (w.alloc (.cells (ic x).toArray 61)) zT
    simpa using this
  have HBB : Hid (w.heap.size ≤ B1) := by show _ ≤ _; omega
  have HXn : Hid (w1.rangeAt B0 0 (sc x.m.n)) := HX.out.node
  have HXp : Hid (w1.rangeAt B0 2 (sc x.m.p)) := HX.out.par
  have HXy : Hid (w1.rangeAt B0 8 (sc x.m.y)) := HX.out.by
  have c4 := Blk.cell HX.out 4 _ rfl
  have c5 := Blk.cell HX.out 5 _ rfl
  have c6 := Blk.cell HX.out 6 _ rfl
  have c7 := Blk.cell HX.out 7 _ rfl
  have HT : Hid (w1.there B1 0 10) := Itb.there HZ.out
  go_enter Tryz.func30, Tryz.ntmps30
  go_upto_region 1 with (first | (refine wpList_okw rfl (exec_box35 (q := x) (.tmp 0) rfl rfl) ?_) | (refine wpList_okw rfl (exec_alloc41 rfl) ?_))
  rw [← hw1, show (w.alloc (.cells (ic x).toArray 61)).heap.size = B1 from by rw [hB1]; simp]
  rw [← hB0]
  clear hw1 hB0 hB1
  have tk1 : Hid True := trivial
  go_wp2_with (first
    | (refine wpList_okw rfl (exec_load24n (n := x.m.n) (.tmp 3) rfl rfl HXn.out) ?_)
    | (refine wpList_okw rfl (exec_load24n (n := x.m.p) (.tmp 5) rfl rfl HXp.out) ?_)
    | (refine wpList_okw rfl (exec_load24n (n := x.m.y) (.tmp 15) rfl rfl HXy.out) ?_)
    | (clear tk1; refine wpList_okw rfl (exec_item41 (x := x) (.tmp 4) (.tmp 6) (.tmp 8) (.tmp 10) (.tmp 12) (.tmp 14) (.tmp 16) rfl rfl rfl rfl rfl rfl rfl rfl) ?_)
    | (refine wpList_skipw rfl (exec_store41 (q := x) (.tmp 2) (.tmp 17) rfl rfl rfl HT.out) ?_))
  have HP : Hid (Itb (w1.setCells B1 0 (ic x)) B1 x) := Itb.put HZ.out
  refine bodyPost_ret (v := iv x) ?_ rfl ⟨rfl, below_put HB1.out HBB.out⟩
  rw [results_cell1 results14]
  exact HP.out.ret1 rfl
theorem items16 {w : World} {v : Value} {O : List IT} (hv : RowF ic w v O) (few : O.length ≤ 1000) : Calls Tryz.prog 14 #[v] w fun e w' => ∃ v', e = .returned v' ∧ OwnT w.heap.size w' v' O ∧ Below w.heap.size w w' := by
  obtain ⟨a, c, rfl⟩ := hv.len
  have hcap := hv.caps
  have HV : Hid (RowF ic w (.slice a O.length c) O) := hv
  obtain ⟨N, hN⟩ : ∃ N, N = O.length := ⟨_, rfl⟩
  have HN : Hid (N = O.length) := hN
  rw [← hN] at HV hcap few ⊢
  clear hv hN
  go_enter Tryz.func14, Tryz.ntmps14
  go_wp2
  go_loopw [3, 4] (fun vo i wr => ∃ (k : Nat), i = .int .i64 (k : Int) ∧ k ≤ N ∧ Hid (OwnT w.heap.size wr vo (O.take k)) ∧ Hid (Below w.heap.size w wr)) (fun _ i _ => N - (intOf i).toNat)
  case atStart => exact ⟨0, rfl, Nat.zero_le _, ownT_nil _ _, Below.refl _ _⟩
  case round =>
    obtain ⟨k, rfl, hk, HO, HB⟩ := hrel
    rename World => wr
    by_cases hlt : k < N
    · have hkI : (k : Int) < (N : Int) := by omega
      obtain ⟨x, hx⟩ : ∃ x, O[k]? = some x := ⟨_, List.getElem?_eq_getElem (by have := HN.out; omega)⟩
      have HTA : Hid (O.take (k + 1) = O.take k ++ [x]) := by
        show _ = _
        obtain ⟨h1, h2⟩ := List.getElem?_eq_some_iff.1 hx
        rw [List.take_succ_eq_append_getElem h1, h2]
      have hfl : (O.take k).length ≤ 1000 := by rw [List.length_take]; omega
      obtain ⟨b1, o1, rfl, hc⟩ := (HV.out.below HB.out).at ic_len hx
      have HC : Hid (wr.rangeAt b1 (o1 + k * 10) (ic x)) := hc
      clear hc hx
      generalize hO : O.take k = T at HO HTA hfl
      clear hO
      have tk1 : Hid True := trivial
      have tk2 : Hid True := trivial
      have tk3 : Hid True := trivial
      go_wp2_with (first
        | (clear tk1; refine wpList_okw rfl (exec_load35 (q := x) (.tmp 14) rfl rfl HC.out) ?_)
        | (go_at_call 30; go_must (refine (item14 x _).mono ?_; rintro e w2 ⟨rfl, hb2⟩; have HB2 : Hid (Below wr.heap.size wr w2) := hb2; clear hb2; obtain ⟨w7, hw7⟩ : ∃ w7, w7 = w2.alloc (.cells (ic x).toArray 76) := ⟨_, rfl⟩; obtain ⟨p7, hp7⟩ : ∃ p7, p7 = w2.heap.size := ⟨_, rfl⟩; have HW7 : Hid (w7 = w2.alloc (.cells (ic x).toArray 76)) := hw7; have HP7 : Hid (p7 = w2.heap.size) := hp7; have HRW : Hid (RowF ic w7 (.slice (some ⟨p7, 0, none⟩) 1 1) [x]) := (show RowF _ _ _ _ from by rw [hw7, hp7]; exact rowF_one w2 x 76); have HB67 : Hid (Below w2.heap.size w2 w7) := (show Below _ _ _ from by rw [hw7]; exact balloc (Below.refl _ _) _); clear hw7 hp7; have HO7 : Hid (OwnT w.heap.size w7 _ T) := HO.out.below (bnext HB2.out HB67.out); have HBw7 : Hid (Below w.heap.size w w7) := bnext HB.out (bnext HB2.out HB67.out)))
        | (clear tk2; refine wpList_okw rfl (exec_build41 (q := x) (.tmp 16) rfl rfl) ?_; rw [← HW7.out, ← HP7.out])
        | (clear tk3; refine wpList_app41 rfl (.tmp 11) (.tmp 17) rfl _ T rfl HO7.out _ x rfl HRW.out (by omega) HBw7.out ?_; intro v8 w8 ho8 hb8 hg8; have HO8 : Hid (OwnT w.heap.size w8 v8 (T ++ [x])) := ho8; have HB8 : Hid (Below w.heap.size w w8) := hb8; clear ho8 hb8 hg8))
      go_roundw
      case rel => exact ⟨k + 1, by go_num, by omega, by show OwnT _ _ _ _; rw [HTA.out]; exact HO8.out, HB8⟩
      case measure => simp [intOf]; omega
    · have hkI : ¬ (k : Int) < (N : Int) := by omega
      have HTL : Hid (O.take k = O) := List.take_of_length_le (by have := HN.out; omega)
      go_wp2
      go_ret
      exact ⟨_, rfl, by rw [← HTL.out]; exact HO.out, HB.out⟩
end

section
set_option linter.unusedVariables false
set_option linter.unusedSimpArgs false
set_option synthInstance.maxSize 20000
set_option maxHeartbeats 2000000
set_option maxRecDepth 20000
open Go.RowKit Go.Maps

def sameI (q r : IM) : Bool := decide (q.n = r.n ∧ q.p = r.p ∧ q.s.toList = r.s.toList ∧ q.d = r.d ∧ q.g = r.g ∧ q.y = r.y ∧ q.b = r.b)
theorem sameI_refl (q : IM) : sameI q q = true := by simp [sameI]
theorem rsame13 {q r : IT} {w : World} (hq : Rd w q.v q.m.b) (hr : Rd w r.v r.m.b) : Calls Tryz.prog 29 #[iv q, iv r] w fun e w' => e = .returned (.bool (sameI q.m r.m)) ∧ Below w.heap.size w w' := by
  have HE : Hid (∀ w', Below w.heap.size w w' → Calls Tryz.prog 48 #[q.v, r.v] w' fun e w'' => e = .returned (.bool (decide (q.m.b = r.m.b))) ∧ Below w'.heap.size w' w'') := fun w' h => same_any q.v r.v q.m.b r.m.b w' (hq.below h) (hr.below h)
  have HQ : Hid (sameI q.m r.m = decide (q.m.n = r.m.n ∧ q.m.p = r.m.p ∧ q.m.s.toList = r.m.s.toList ∧ q.m.d = r.m.d ∧ q.m.g = r.m.g ∧ q.m.y = r.m.y ∧ q.m.b = r.m.b)) := (rfl : sameI q.m r.m = _)
  generalize sameI q.m r.m = SO at HQ ⊢
  clear hq hr
  obtain ⟨⟨⟨n1, n2⟩, ⟨p1, p2⟩, s, d, g, ⟨y1, y2⟩, b⟩, a, vn, vc⟩ := q
  obtain ⟨⟨⟨n1', n2'⟩, ⟨p1', p2'⟩, s', d', g', ⟨y1', y2'⟩, b'⟩, a', vn', vc'⟩ := r
  unfold IT.v at HE
  unfold iv ic
  dsimp only at HE HQ ⊢
  have HB0 : Hid (Below w.heap.size w ((w.alloc (.cells #[.int .i64 n1, .int .i64 n2, .int .i64 p1, .int .i64 p2, .string s, .bool d, .bool g, .slice a vn vc, .int .i64 y1, .int .i64 y2] 76)).alloc (.cells #[.int .i64 n1', .int .i64 n2', .int .i64 p1', .int .i64 p2', .string s', .bool d', .bool g', .slice a' vn' vc', .int .i64 y1', .int .i64 y2'] 76))) := (show Below _ _ _ from balloc (balloc (Below.refl _ _) _) _)
  by_cases h_n1 : n1 = n1'
  rotate_left
  · have e_n1 : (n1 == n1') = false := by simp [h_n1]
    have HF : Hid (SO = false) := by show _ = _; rw [HQ.out]; simp [h_n1]
    clear HE HQ
    go_enter Tryz.func29, Tryz.ntmps29
    go_wp2
    go_ret
    exact ⟨by rw [HF.out]; rfl, HB0.out⟩
  subst h_n1
  by_cases h_n2 : n2 = n2'
  rotate_left
  · have e_n2 : (n2 == n2') = false := by simp [h_n2]
    have HF : Hid (SO = false) := by show _ = _; rw [HQ.out]; simp [h_n2]
    clear HE HQ
    go_enter Tryz.func29, Tryz.ntmps29
    go_wp2
    go_ret
    exact ⟨by rw [HF.out]; rfl, HB0.out⟩
  subst h_n2
  by_cases h_p1 : p1 = p1'
  rotate_left
  · have e_p1 : (p1 == p1') = false := by simp [h_p1]
    have HF : Hid (SO = false) := by show _ = _; rw [HQ.out]; simp [h_p1]
    clear HE HQ
    go_enter Tryz.func29, Tryz.ntmps29
    go_wp2
    go_ret
    exact ⟨by rw [HF.out]; rfl, HB0.out⟩
  subst h_p1
  by_cases h_p2 : p2 = p2'
  rotate_left
  · have e_p2 : (p2 == p2') = false := by simp [h_p2]
    have HF : Hid (SO = false) := by show _ = _; rw [HQ.out]; simp [h_p2]
    clear HE HQ
    go_enter Tryz.func29, Tryz.ntmps29
    go_wp2
    go_ret
    exact ⟨by rw [HF.out]; rfl, HB0.out⟩
  subst h_p2
  by_cases h_s : s.toList = s'.toList
  rotate_left
  · have e_s : (s.toList == s'.toList) = false := by simp [h_s]
    have HF : Hid (SO = false) := by show _ = _; rw [HQ.out]; simp [h_s]
    clear HE HQ
    go_enter Tryz.func29, Tryz.ntmps29
    go_wp2
    go_ret
    exact ⟨by rw [HF.out]; rfl, HB0.out⟩
  have e_s : (s.toList == s'.toList) = true := by simp [h_s]
  by_cases h_d : d = d'
  rotate_left
  · have e_d : (d == d') = false := by simp [h_d]
    have HF : Hid (SO = false) := by show _ = _; rw [HQ.out]; simp [h_d]
    clear HE HQ
    go_enter Tryz.func29, Tryz.ntmps29
    go_wp2
    go_ret
    exact ⟨by rw [HF.out]; rfl, HB0.out⟩
  subst h_d
  by_cases h_g : g = g'
  rotate_left
  · have e_g : (g == g') = false := by simp [h_g]
    have HF : Hid (SO = false) := by show _ = _; rw [HQ.out]; simp [h_g]
    clear HE HQ
    go_enter Tryz.func29, Tryz.ntmps29
    go_wp2
    go_ret
    exact ⟨by rw [HF.out]; rfl, HB0.out⟩
  subst h_g
  by_cases h_y1 : y1 = y1'
  rotate_left
  · have e_y1 : (y1 == y1') = false := by simp [h_y1]
    have HF : Hid (SO = false) := by show _ = _; rw [HQ.out]; simp [h_y1]
    clear HE HQ
    go_enter Tryz.func29, Tryz.ntmps29
    go_wp2
    go_ret
    exact ⟨by rw [HF.out]; rfl, HB0.out⟩
  subst h_y1
  by_cases h_y2 : y2 = y2'
  rotate_left
  · have e_y2 : (y2 == y2') = false := by simp [h_y2]
    have HF : Hid (SO = false) := by show _ = _; rw [HQ.out]; simp [h_y2]
    clear HE HQ
    go_enter Tryz.func29, Tryz.ntmps29
    go_wp2
    go_ret
    exact ⟨by rw [HF.out]; rfl, HB0.out⟩
  subst h_y2
  have HF : Hid (SO = decide (b = b')) := by show _ = _; rw [HQ.out]; simp [h_s]
  generalize decide (b = b') = bb at HE HF
  clear HQ
  go_enter Tryz.func29, Tryz.ntmps29
  go_wp2_with (go_at_call 48; go_must (refine (HE.out _ HB0.out).mono ?_; rintro e w2 ⟨rfl, hb2⟩; have HB2 : Hid (Below w.heap.size w w2) := bnext HB0.out hb2; clear hb2))
  go_ret
  exact ⟨by rw [HF.out]; rfl, HB2.out⟩
set_option maxHeartbeats 4000000 in
theorem rsameL15 {w : World} {v u : Value} {x y : List IT} (hv : RowF ic w v x) (hu : RowF ic w u y) (hx : ∀ q ∈ x, Rd w q.v q.m.b) (hy : ∀ q ∈ y, Rd w q.v q.m.b) (h : x.map IT.m = y.map IT.m) :
    Calls Tryz.prog 13 #[v, u] w fun e w' => e = .returned (.bool true) ∧ Below w.heap.size w w' := by
  have hN : y.length = x.length := by have := congrArg List.length h; simpa using this.symm
  obtain ⟨a, c, rfl⟩ := hv.len
  obtain ⟨a2, c2, rfl⟩ := hu.len
  have hcap := hv.caps
  have hcap2 := hu.caps
  have hcapN : x.length ≤ 9223372036854775807 := by omega
  have HV : Hid (RowF ic w (.slice a x.length c) x) := hv
  have HU : Hid (RowF ic w (.slice a2 y.length c2) y) := hu
  rw [hN] at HU ⊢
  have HN : Hid (y.length = x.length) := hN
  have HX : Hid (∀ q ∈ x, Rd w q.v q.m.b) := hx
  have HY : Hid (∀ q ∈ y, Rd w q.v q.m.b) := hy
  have HE : Hid (x.map IT.m = y.map IT.m) := h
  have HNL : Hid (∃ N, x.length = N) := ⟨_, rfl⟩
  obtain ⟨N, hNN⟩ := HNL.out
  have HNN : Hid (x.length = N) := hNN
  rw [hNN] at HV HU HN hcapN ⊢
  clear hv hu hx hy h hN hcap hcap2 HNL hNN
  go_enter Tryz.func13, Tryz.ntmps13
  go_wp2
  go_loopw [5] (fun i wr => ∃ m : Nat, i = .int .i64 (m : Int) ∧ m ≤ N ∧ Hid (Below w.heap.size w wr)) (fun i _ => N - (intOf i).toNat)
  case atStart => exact ⟨0, rfl, Nat.zero_le _, Below.refl _ _⟩
  case round =>
    obtain ⟨m, rfl, hm, HB⟩ := hrel
    rename World => wq
    by_cases hk : m < N
    · have hkI : (m : Int) < (N : Int) := by omega
      obtain ⟨q, hq⟩ : ∃ q, x[m]? = some q := ⟨_, List.getElem?_eq_getElem (by have := HNN.out; omega)⟩
      obtain ⟨r, hr⟩ : ∃ r, y[m]? = some r := ⟨_, List.getElem?_eq_getElem (by have := HN.out; omega)⟩
      have hqr : q.m = r.m := by
        have h1 : (x.map IT.m)[m]? = (y.map IT.m)[m]? := by rw [HE.out]
        rw [List.getElem?_map, List.getElem?_map, hq, hr] at h1
        simpa using h1
      have hs : sameI q.m r.m = true := by rw [hqr]; exact sameI_refl _
      obtain ⟨b1, o1, rfl, _⟩ := HV.out.at ic_len hq
      obtain ⟨b2, o2, rfl, _⟩ := HU.out.at ic_len hr
      have hC : ∀ w' : World, Below wq.heap.size wq w' → w'.rangeAt b1 (o1 + m * 10) (ic q) ∧ w'.rangeAt b2 (o2 + m * 10) (ic r) := fun w' hb => by
        obtain ⟨b1', o1', e1, h1⟩ := (HV.out.below (bnext HB.out hb)).at ic_len hq
        obtain ⟨b2', o2', e2, h2⟩ := (HU.out.below (bnext HB.out hb)).at ic_len hr
        cases e1
        cases e2
        exact ⟨h1, h2⟩
      have HCL : Hid (∀ z : WIn (fun w' => Below wq.heap.size wq w'), z.w.rangeAt b1 (o1 + m * 10) (ic q) ∧ z.w.rangeAt b2 (o2 + m * 10) (ic r)) := fun z => hC z.w z.ok
      have hqx := HX.out q (List.mem_of_getElem? hq)
      have hrx := HY.out r (List.mem_of_getElem? hr)
      have HK : Hid (∀ w' : World, Below wq.heap.size wq w' → Calls Tryz.prog 29 #[iv q, iv r] w' fun r w'' => r = .returned (.bool true) ∧ Below w'.heap.size w' w'') := fun w' hb => by
        have := rsame13 (w := w') (hqx.below (bnext HB.out hb)) (hrx.below (bnext HB.out hb))
        rwa [hs] at this
      have ne : Nonempty (WIn (fun w' => Below wq.heap.size wq w')) := ⟨⟨wq, Below.refl _ _⟩⟩
      clear hq hr hqr hs hC hqx hrx
      go_wp2_with fail
      refine wp_region_tree (C := fun w' => ∃ z : WIn (fun w' => Below wq.heap.size wq w'), w' = z.w) (.still 0 (.still 1 (.still 2 (.still 3 (.still 4 (.still 5 (.still 6 (.still 7 (.one 8 (.still 9 .done)))))))))) (by kernel_rfl) (by kernel_rfl) ⟨⟨wq.drew, below_drewn wq 1⟩, rfl⟩ ?_
      iterate 3 (refine tree_still rfl rfl ?_; go_big_quiet_step (fail); refine wpQuiet_nil ?_)
      refine tree_still rfl rfl ?_
      refine quiet_ok1 rfl (fun w' hw' => by obtain ⟨z, rfl⟩ := hw'; exact exec_load41 (q := q) (.tmp 19) rfl rfl (HCL.out z).1) ?_
      go_simp
      iterate 3 (refine tree_still rfl rfl ?_; go_big_quiet_step (fail); refine wpQuiet_nil ?_)
      refine tree_still rfl rfl ?_
      refine quiet_ok1 rfl (fun w' hw' => by obtain ⟨z, rfl⟩ := hw'; exact exec_load41 (q := r) (.tmp 23) rfl rfl (HCL.out z).2) ?_
      go_simp
      refine tree_one rfl rfl ?_
      go_simp
      refine (HK.out _ (below_drewn wq 1)).mono ?_
      rintro r w3 ⟨rfl, hb3⟩
      have HB3 : Hid (Below wq.heap.size wq w3) := bnext (below_drewn wq 1) hb3
      clear hb3
      refine ⟨⟨⟨w3, HB3.out⟩, rfl⟩, ?_⟩
      go_simp
      iterate 1 (refine tree_still rfl rfl ?_; go_big_quiet_step (fail); refine wpQuiet_nil ?_)
      refine tree_done ?_
      clear ne HCL HK
      go_wp2
      go_roundw
      case rel => exact ⟨m + 1, by go_num, by omega, bnext HB.out HB3.out⟩
      case measure => simp [intOf]; omega
    · have hkI : ¬ (m : Int) < (N : Int) := by omega
      go_wp2
      go_ret
      exact ⟨rfl, HB.out⟩
end

section
set_option linter.unusedVariables false
set_option linter.unusedSimpArgs false
set_option synthInstance.maxSize 20000
set_option maxHeartbeats 2000000
set_option maxRecDepth 20000
open Go.RowKit Go.Maps

theorem has11b {w : World} {v : Value} {lb tb : Nat} {mo : Option Nat} {L : List IT} {U : List ST} (h : LogAt w lb v tb mo L U) (a : S) : Calls Tryz.prog 18 #[ptr lb, sv a] w fun e w' => e = .returned (.bool (hasO a (Ob U))) ∧ Below w.heap.size w w' := by
  refine (has11 h.blk h.row h.str (by have := h.few; omega) a).mono ?_
  rintro e w' ⟨⟨i, _, rfl, hc⟩, hb⟩
  refine ⟨?_, hb⟩
  congr 2
  cases hh : hereB (U.drop i) a with
  | false => exact (has_no (cut_no h.str hc hh)).symm
  | true =>
    obtain ⟨r, R', e1, e2⟩ := here_yes hh
    exact (has_iff.2 ⟨r, List.mem_of_mem_drop (by rw [e1]; exact List.mem_cons_self), e2⟩).symm
/-- A row of items that was handed out. -/
structure Was (w : World) (v : Value) (X : List IT) : Prop where
  row : RowF ic w v X
  rd : ∀ x ∈ X, Rd w x.v x.m.b
theorem Was.below {w w' : World} {v : Value} {X : List IT} (h : Was w v X) (hb : Below w.heap.size w w') : Was w' v X := ⟨h.row.below hb, fun x hx => (h.rd x hx).below hb⟩
theorem all17w {w : World} {tb : Nat} {mo : Option Nat} {L : List IT} (h : PTr w tb mo L) (few : L.length ≤ 500) : Calls Tryz.prog 16 #[ptr tb] w fun e w' => ∃ v X, e = .returned v ∧ Was w' v X ∧ X.map IT.m = L.map IT.m ∧ Below w.heap.size w w' := by
  refine (all17 h few).mono ?_
  rintro e w' ⟨v, X, he, ho, hm, hown, hb⟩
  exact ⟨v, X, he, ⟨ho.row, fun x hx => (hown x hx).rd⟩, by rw [hm, show (L.map IT.m).filter anyI = L.map IT.m from List.filter_eq_self.2 fun _ _ => rfl], hb⟩
theorem items16w {w : World} {v : Value} {X : List IT} (h : Was w v X) (few : X.length ≤ 1000) : Calls Tryz.prog 14 #[v] w fun e w' => ∃ v', e = .returned v' ∧ Was w' v' X ∧ Below w.heap.size w w' := by
  refine (items16 h.row few).mono ?_
  rintro e w' ⟨v', rfl, ho, hb⟩
  exact ⟨v', rfl, ⟨ho.row, fun x hx => (h.rd x hx).below hb⟩, hb⟩
theorem same15w {w : World} {v u : Value} {X Y : List IT} (hv : Was w v X) (hu : Was w u Y) (h : X.map IT.m = Y.map IT.m) : Calls Tryz.prog 13 #[v, u] w fun e w' => e = .returned (.bool true) ∧ Below w.heap.size w w' := rsameL15 hv.row hu.row hv.rd hu.rd h
theorem map_len {X : List IT} {M : List IM} (h : X.map IT.m = M) : X.length = M.length := by rw [← h, List.length_map]
theorem light_ofB1 {l : List OpT} {n : Int} (h : lightB l n = true) {W : World} (en : ∀ q ∈ l, Rd W q.v q.b) : (l.length : Int) ≤ n ∧ ∀ q ∈ l, Rd W q.v q.b ∧ q.b.length ≤ 1000 := by
  unfold lightB at h
  rw [Bool.and_eq_true] at h
  refine ⟨of_decide_eq_true h.1, fun q hq => ⟨en q hq, ?_⟩⟩
  have h1 := of_decide_eq_true (List.all_eq_true.1 h.2 q hq)
  have h2 := okv_of (en q hq)
  unfold Okv at h2
  omega
theorem StepB.len {U T : List ST} {s : SpT} {n k : Int} (h : StepB U s T n k) : T.length ≤ U.length + 1 := by
  rcases h with ⟨_, h⟩ | ⟨_, h⟩
  · have := h.len; omega
  · exact h.len
theorem StepB.ins {U T : List ST} {s : SpT} {n k : Int} (h : StepB U s T n k) (hg : s.g = false) : InsB U s.q T n k := by
  rcases h with ⟨h1, _⟩ | ⟨_, h⟩
  · rw [hg] at h1; cases h1
  · exact h
theorem StepB.rem {U T : List ST} {s : SpT} {n k : Int} (h : StepB U s T n k) (hg : s.g = true) : RemB U s.q.a T n k := by
  rcases h with ⟨_, h⟩ | ⟨h1, _⟩
  · exact h
  · rw [hg] at h1; cases h1
theorem map_few {R : List OpT} {U : List ST} (h : R.map bare = Ob U) : R.length = U.length := by
  have := congrArg List.length h
  rw [List.length_map] at this
  rw [this]
  simp [Ob, opsS]
/-- Both logs. -/
structure TwoL (B : Nat) (w : World) (lb : Nat) (v : Value) (tb : Nat) (mo : Option Nat) (L : List IT) (U : List ST) (rb : Nat) (va : Option Addr) (c : Nat) (R : List OpT) : Prop where
  g : LogN B w lb v tb mo L U
  r : RLg B w rb (.slice va U.length c) R
  m : R.map bare = Ob U
  n : B ≤ rb
theorem TwoL.below {B : Nat} {w w' : World} {lb : Nat} {v : Value} {tb : Nat} {mo : Option Nat} {L : List IT} {U : List ST} {rb : Nat} {va : Option Addr} {c : Nat} {R : List OpT} (h : TwoL B w lb v tb mo L U rb va c R) (hb : Below w.heap.size w w') : TwoL B w' lb v tb mo L U rb va c R := ⟨h.g.below hb, h.r.below hb, h.m, h.n⟩
theorem TwoL.of {B : Nat} {w w' : World} {lb : Nat} {v : Value} {tb : Nat} {mo : Option Nat} {L : List IT} {U : List ST} {rb : Nat} {u u' : Value} {R R' : List OpT} (hg : LogN B w lb v tb mo L U) (hr : RLg B w rb u R) (hr' : RLg B w' rb u' R') (hw : w.grownBy w' (some rb)) (hm : R'.map bare = Ob U) (hn : B ≤ rb) : ∃ va c, u' = .slice va U.length c ∧ TwoL B w' lb v tb mo L U rb va c R' := by
  obtain ⟨a, c, e⟩ := hr'.own.row.len
  rw [map_few hm] at e
  subst e
  exact ⟨a, c, rfl, ⟨⟨hg.at_.beside hr hw, hg.nl, hg.nt, hg.nm, hg.nv⟩, hr', hm, hn⟩⟩
theorem TwoL.okv {B : Nat} {w : World} {lb : Nat} {v : Value} {tb : Nat} {mo : Option Nat} {L : List IT} {U : List ST} {rb : Nat} {va : Option Addr} {c : Nat} {R : List OpT} (h : TwoL B w lb v tb mo L U rb va c R) : L.map IT.m = buildM [] R := h.g.at_.lstB h.m fun q hq => okv_of (h.r.rd q hq)
theorem hasO_more {R : List OpT} {a : S} {k : Nat} {x : OpT} (hx : R[k]? = some x) : hasO a (R.take (k + 1)) = (hasO a (R.take k) || decide (x.a = a)) := by
  obtain ⟨hi, e⟩ := List.getElem?_eq_some_iff.1 hx
  rw [List.take_succ_eq_append_getElem hi, e]
  unfold hasO
  rw [List.any_append]
  simp
theorem range_a {w : World} {b off : Nat} {q : OpT} (h : w.rangeAt b off (oc q)) : w.rangeAt b (off + 1) (sc q.a) := range_at5 h
end
end Go.Proofs.YthnjbjlhfohpfaaGreat
