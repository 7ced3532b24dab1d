/-
  The law's own: an item, and items, of the program as the document's.
-/
import Derived.Test.YtjlpdoomchkfgaaTsF
namespace Go.Proofs.Ytjlpdoomchkfgaa
set_option linter.unusedVariables false
set_option linter.unusedSimpArgs false
set_option synthInstance.maxSize 20000
set_option maxHeartbeats 2000000
set_option maxRecDepth 20000
open Go.RowKit Go.Maps

theorem exec_item41 {o : Oper} {r : Operand → Value} {w : World} {x : IT} (x0 x1 x2 x3 x4 x5 x6 : Operand) (ho : o.op = .build 41 #[(0, x0), (1, x1), (2, x2), (3, x3), (4, x4), (5, x5), (6, x6)]) (h0 : r x0 = sv x.m.n) (h1 : r x1 = sv x.m.p) (h2 : r x2 = .string x.m.s) (h3 : r x3 = .bool x.m.d) (h4 : r x4 = .bool x.m.g) (h5 : r x5 = .slice x.a x.vn x.vc) (h6 : r x6 = sv x.m.y) : (execOp r o).run Try.prog w = .ok (.value (iv x)) w := by
  obtain ⟨⟨⟨n1, n2⟩, ⟨p1, p2⟩, s, d, g, ⟨y1, y2⟩, b⟩, a, vn, vc⟩ := x
  unfold sv at h0 h1 h6
  unfold iv ic
  dsimp only at *
  unfold execOp
  simp only [ho]
  go_simp
theorem Itp.by {w : World} {b : Nat} {q : IT} (h : Itp w b q) : w.rangeAt b 8 (sc q.m.y) := Blk.range h 8 fun j u hj => by
  match j, hj with
  | 0, hj => exact hj
  | 1, hj => exact hj
  | j + 2, hj => simp [sc] at hj
theorem results14 : Try.f14.results = #[.cell 2 41] := rfl
theorem Itb.ret1 {w : World} {b : Nat} {q : IT} {v : Value} (h : Itb w b q) (h1 : v = ptr b) : (((asAddr v).run Try.prog w).andThen fun a w₁ => (loadVar 41 a).run Try.prog w₁) = .ok (iv q) w := by
  subst h1
  have e1 : (asAddr (ptr b)).run Try.prog w = .ok ⟨b, 0, none⟩ w := rfl
  rw [e1]
  simp only [Result.andThen_ok, h.load]
theorem item14 (x : IT) (w : World) : Calls Try.prog 14 #[iv x] w fun e w' => e = .returned (iv x) ∧ Below w.heap.size w w' := by
  obtain ⟨w1, hw1⟩ : ∃ w1, w1 = (w.alloc (.cells (ic x).toArray 35)).alloc (.cells (ic zT).toArray 41) := ⟨_, rfl⟩
  obtain ⟨B0, hB0⟩ : ∃ B0, B0 = w.heap.size := ⟨_, rfl⟩
  obtain ⟨B1, hB1⟩ : ∃ B1, B1 = w.heap.size + 1 := ⟨_, rfl⟩
  have HB1 : Hid (Below w.heap.size w w1) := by show Below _ _ _; rw [hw1]; exact balloc (balloc (Below.refl _ _) _) _
  have HX : Hid (Itp w1 B0 x) := by show Itp _ _ _; rw [hw1, hB0]; exact Blk.alloc (itp_new w x) _
  have HZ : Hid (Itb w1 B1 zT) := by
    show Itb _ _ _
    rw [hw1, hB1]
    have := itb_new (w.alloc (.cells (ic x).toArray 35)) zT
    simpa using this
  have HBB : Hid (w.heap.size ≤ B1) := by show _ ≤ _; omega
  have HXn : Hid (w1.rangeAt B0 0 (sc x.m.n)) := HX.out.node
  have HXp : Hid (w1.rangeAt B0 2 (sc x.m.p)) := HX.out.par
  have HXy : Hid (w1.rangeAt B0 8 (sc x.m.y)) := HX.out.by
  have c4 := Blk.cell HX.out 4 _ rfl
  have c5 := Blk.cell HX.out 5 _ rfl
  have c6 := Blk.cell HX.out 6 _ rfl
  have c7 := Blk.cell HX.out 7 _ rfl
  have HT : Hid (w1.there B1 0 10) := Itb.there HZ.out
  go_enter Try.func14, Try.ntmps14
  go_upto_region 1 with (first | (refine wpList_okw rfl (exec_box35 (q := x) (.tmp 0) rfl rfl) ?_) | (refine wpList_okw rfl (exec_alloc41 rfl) ?_))
  rw [← hw1, show (w.alloc (.cells (ic x).toArray 35)).heap.size = B1 from by rw [hB1]; simp]
  rw [← hB0]
  clear hw1 hB0 hB1
  have tk1 : Hid True := trivial
  go_wp2_with (first
    | (refine wpList_okw rfl (exec_load24n (n := x.m.n) (.tmp 3) rfl rfl HXn.out) ?_)
    | (refine wpList_okw rfl (exec_load24n (n := x.m.p) (.tmp 5) rfl rfl HXp.out) ?_)
    | (refine wpList_okw rfl (exec_load24n (n := x.m.y) (.tmp 15) rfl rfl HXy.out) ?_)
    | (clear tk1; refine wpList_okw rfl (exec_item41 (x := x) (.tmp 4) (.tmp 6) (.tmp 8) (.tmp 10) (.tmp 12) (.tmp 14) (.tmp 16) rfl rfl rfl rfl rfl rfl rfl rfl) ?_)
    | (refine wpList_skipw rfl (exec_store41 (q := x) (.tmp 2) (.tmp 17) rfl rfl rfl HT.out) ?_))
  have HP : Hid (Itb (w1.setCells B1 0 (ic x)) B1 x) := Itb.put HZ.out
  refine bodyPost_ret (v := iv x) ?_ rfl ⟨rfl, below_put HB1.out HBB.out⟩
  rw [results_cell1 results14]
  exact HP.out.ret1 rfl
theorem items16 {w : World} {v : Value} {O : List IT} (hv : RowF ic w v O) (few : O.length ≤ 1000) : Calls Try.prog 16 #[v] w fun e w' => ∃ v', e = .returned v' ∧ OwnT w.heap.size w' v' O ∧ Below w.heap.size w w' := by
  obtain ⟨a, c, rfl⟩ := hv.len
  have hcap := hv.caps
  have HV : Hid (RowF ic w (.slice a O.length c) O) := hv
  obtain ⟨N, hN⟩ : ∃ N, N = O.length := ⟨_, rfl⟩
  have HN : Hid (N = O.length) := hN
  rw [← hN] at HV hcap few ⊢
  clear hv hN
  go_enter Try.func16, Try.ntmps16
  go_wp2
  go_loopw [3, 4] (fun vo i wr => ∃ (k : Nat), i = .int .i64 (k : Int) ∧ k ≤ N ∧ Hid (OwnT w.heap.size wr vo (O.take k)) ∧ Hid (Below w.heap.size w wr)) (fun _ i _ => N - (intOf i).toNat)
  case atStart => exact ⟨0, rfl, Nat.zero_le _, ownT_nil _ _, Below.refl _ _⟩
  case round =>
    obtain ⟨k, rfl, hk, HO, HB⟩ := hrel
    rename World => wr
    by_cases hlt : k < N
    · have hkI : (k : Int) < (N : Int) := by omega
      obtain ⟨x, hx⟩ : ∃ x, O[k]? = some x := ⟨_, List.getElem?_eq_getElem (by have := HN.out; omega)⟩
      have HTA : Hid (O.take (k + 1) = O.take k ++ [x]) := by
        show _ = _
        obtain ⟨h1, h2⟩ := List.getElem?_eq_some_iff.1 hx
        rw [List.take_succ_eq_append_getElem h1, h2]
      have hfl : (O.take k).length ≤ 1000 := by rw [List.length_take]; omega
      obtain ⟨b1, o1, rfl, hc⟩ := (HV.out.below HB.out).at ic_len hx
      have HC : Hid (wr.rangeAt b1 (o1 + k * 10) (ic x)) := hc
      clear hc hx
      generalize hO : O.take k = T at HO HTA hfl
      clear hO
      have tk1 : Hid True := trivial
      have tk2 : Hid True := trivial
      have tk3 : Hid True := trivial
      go_wp2_with (first
        | (clear tk1; refine wpList_okw rfl (exec_load35 (q := x) (.tmp 14) rfl rfl HC.out) ?_)
        | (go_at_call 14; go_must (refine (item14 x _).mono ?_; rintro e w2 ⟨rfl, hb2⟩; have HB2 : Hid (Below wr.heap.size wr w2) := hb2; clear hb2; obtain ⟨w7, hw7⟩ : ∃ w7, w7 = w2.alloc (.cells (ic x).toArray 41) := ⟨_, rfl⟩; obtain ⟨p7, hp7⟩ : ∃ p7, p7 = w2.heap.size := ⟨_, rfl⟩; have HW7 : Hid (w7 = w2.alloc (.cells (ic x).toArray 41)) := hw7; have HP7 : Hid (p7 = w2.heap.size) := hp7; have HRW : Hid (RowF ic w7 (.slice (some ⟨p7, 0, none⟩) 1 1) [x]) := (show RowF _ _ _ _ from by rw [hw7, hp7]; exact rowF_one w2 x 41); have HB67 : Hid (Below w2.heap.size w2 w7) := (show Below _ _ _ from by rw [hw7]; exact balloc (Below.refl _ _) _); clear hw7 hp7; have HO7 : Hid (OwnT w.heap.size w7 _ T) := HO.out.below (bnext HB2.out HB67.out); have HBw7 : Hid (Below w.heap.size w w7) := bnext HB.out (bnext HB2.out HB67.out)))
        | (clear tk2; refine wpList_okw rfl (exec_build41 (q := x) (.tmp 16) rfl rfl) ?_; rw [← HW7.out, ← HP7.out])
        | (clear tk3; refine wpList_app41 rfl (.tmp 11) (.tmp 17) rfl _ T rfl HO7.out _ x rfl HRW.out (by omega) HBw7.out ?_; intro v8 w8 ho8 hb8 hg8; have HO8 : Hid (OwnT w.heap.size w8 v8 (T ++ [x])) := ho8; have HB8 : Hid (Below w.heap.size w w8) := hb8; clear ho8 hb8 hg8))
      go_roundw
      case rel => exact ⟨k + 1, by go_num, by omega, by show OwnT _ _ _ _; rw [HTA.out]; exact HO8.out, HB8⟩
      case measure => simp [intOf]; omega
    · have hkI : ¬ (k : Int) < (N : Int) := by omega
      have HTL : Hid (O.take k = O) := List.take_of_length_le (by have := HN.out; omega)
      go_wp2
      go_ret
      exact ⟨_, rfl, by rw [← HTL.out]; exact HO.out, HB.out⟩
end Go.Proofs.Ytjlpdoomchkfgaa
