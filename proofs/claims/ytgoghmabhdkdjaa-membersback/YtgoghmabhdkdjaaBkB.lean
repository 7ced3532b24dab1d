/-
  Bytes of the program.
-/
import Derived.Test.YtgoghmabhdkdjaaBkM
import Derived.Test.YtgoghmabhdkdjaaRgt2
namespace Go.Proofs.Ytgoghmabhdkdjaa
set_option linter.unusedVariables false
set_option linter.unusedSimpArgs false
set_option synthInstance.maxSize 20000
set_option maxHeartbeats 2000000
set_option maxRecDepth 20000
open Go.RowKit Go.Maps

theorem put42 {w : World} {v : Value} {l : List Int} {N : Nat} (hv : Rd w v l) (hl : l.length ≤ 1000000) (hN : N ≤ 1000000) : Calls Try.prog 42 #[v, .int .i64 (N : Int)] w fun r w' => ∃ x n q, r = .returned (.slice x n q) ∧ Rd w' (.slice x n q) (l ++ form N) ∧ Below w.heap.size w w' := by
  have H43 : Hid (Calls Try.prog 43 #[v, .int .u64 (N : Int)] w fun r w' => ∃ x n q, r = .returned (.slice x n q) ∧ Rd w' (.slice x n q) (l ++ form N) ∧ Below w.heap.size w w') := (show Calls _ _ _ _ _ from by
    refine (num_any v l N w hv (by omega) (by omega)).mono ?_
    rintro r w' ⟨v', rfl, h1, h2⟩
    obtain ⟨x, q, e⟩ := h1.rd.len
    subst e
    exact ⟨x, _, q, rfl, h1.rd, h2⟩)
  obtain ⟨a, c, rfl⟩ := hv.len
  clear hv
  go_enter Try.func42, Try.ntmps42
  go_wp2_with (go_at_call 43; go_must (refine H43.out.mono ?_; rintro r w2 ⟨x2, n2, q2, rfl, h1, h2⟩))
  go_ret
  exact ⟨x2, n2, q2, rfl, h1, h2⟩
theorem num43 {w : World} {v : Value} {l : List Int} {N : Nat} (hv : Rd w v l) (hl : l.length ≤ 1000000) (hN : N < 18446744073709551616) : Calls Try.prog 43 #[v, .int .u64 (N : Int)] w fun r w' => ∃ x n q, r = .returned (.slice x n q) ∧ Rd w' (.slice x n q) (l ++ form N) ∧ Below w.heap.size w w' := by
  refine (num_any v l N w hv (by omega) hN).mono ?_
  rintro r w' ⟨v', rfl, h1, h2⟩
  obtain ⟨x, q, e⟩ := h1.rd.len
  subst e
  exact ⟨x, _, q, rfl, h1.rd, h2⟩
theorem bytes44 {w : World} {v x : Value} {l m : List Int} (hv : Rd w v l) (hx : Rd w x m) (hl : l.length ≤ 1000000) (hm : m.length ≤ 1000000) : Calls Try.prog 44 #[v, x] w fun r w' => ∃ x n q, r = .returned (.slice x n q) ∧ Rd w' (.slice x n q) (l ++ form m.length ++ m) ∧ Below w.heap.size w w' := by
  refine (bytes_any v x l m w hv hx (by omega) (by omega)).mono ?_
  rintro r w' ⟨v', rfl, h1, h2⟩
  obtain ⟨x, q, e⟩ := h1.rd.len
  subst e
  exact ⟨x, _, q, rfl, h1.rd, h2⟩
theorem form_le20 {n : Nat} (h : n ≤ 1000000) : (form n).length ≤ 10 := form_le10 (by omega)
theorem wsBytes_len : ∀ (ws : List Wp), (∀ x ∈ ws, (0 ≤ x.w ∧ x.w ≤ 7) ∧ x.b.length = 16) → (wsBytes ws).length ≤ 36 * ws.length
  | [], _ => by simp [wsBytes]
  | x :: r, h => by
    have h1 := wsBytes_len r (fun y hy => h y (by simp [hy]))
    obtain ⟨⟨h2, h3⟩, h4⟩ := h x (by simp)
    have h5 := form_le20 (n := x.w.toNat) (by omega)
    have h6 := form_le20 (n := x.b.length) (by omega)
    simp only [wsBytes, wBytes, List.length_append, List.length_cons]
    omega
set_option maxHeartbeats 8000000 in
theorem putWraps45 {w : World} {v a : Value} {l : List Int} {qs : List Wq} (hv : Rd w v l) (hl : l.length ≤ 1000) (ha : RowF wq w a qs) (hr : ∀ q ∈ qs, Rd w q.2 q.1.b) (hq : ∀ q ∈ qs, (0 ≤ q.1.w ∧ q.1.w ≤ 7) ∧ q.1.b.length = 16) (hn : qs.length ≤ 20) : Calls Try.prog 45 #[v, a] w fun r w' => ∃ x n q, r = .returned (.slice x n q) ∧ Rd w' (.slice x n q) (l ++ form qs.length ++ wsBytes (qs.map (·.1))) ∧ Below w.heap.size w w' := by
  have HV : Hid (∀ w', Below w.heap.size w w' → RowF wq w' a qs) := fun w' hb => ha.below hb
  have HR : Hid (∀ q ∈ qs, ∀ w', Below w.heap.size w w' → Rd w' q.2 q.1.b) := fun q hq w' hb => (hr q hq).below hb
  have HQ : Hid (∀ q ∈ qs, (0 ≤ q.1.w ∧ q.1.w ≤ 7) ∧ q.1.b.length = 16) := hq
  obtain ⟨n, hnn⟩ : ∃ n, n = qs.length := ⟨_, rfl⟩
  have HN : Hid (n = qs.length) := hnn
  have H0 : Hid (Calls Try.prog 42 #[v, .int .i64 (n : Int)] w fun r w' => ∃ x m q, r = .returned (.slice x m q) ∧ Rd w' (.slice x m q) (l ++ form n) ∧ Below w.heap.size w w') := (show Calls _ _ _ _ _ from put42 hv (by omega) (by omega))
  have HLk : Hid (∀ k, (l ++ form n ++ wsBytes ((qs.map (·.1)).take k)).length ≤ 2000) := fun k => by
    have h1 := form_le20 (n := n) (by omega)
    have h2 := wsBytes_len ((qs.map (·.1)).take k) (fun x hx => by
      obtain ⟨q, hq1, rfl⟩ := List.mem_map.1 (List.mem_of_mem_take hx)
      exact hq q hq1)
    have h3 : ((qs.map (·.1)).take k).length ≤ 20 := by rw [List.length_take, List.length_map]; omega
    simp only [List.length_append]
    omega
  obtain ⟨av, cv', rfl⟩ := hv.len
  obtain ⟨aa, ca, rfl⟩ := ha.len
  have hc1 : qs.length ≤ ca := ha.caps.2.1
  have hc2 : ca ≤ 9223372036854775807 := ha.caps.2.2
  rw [← hnn] at hc1 HV hn ⊢
  clear hv ha hr hq hnn
  go_enter Try.func45, Try.ntmps45
  go_wp2_with (go_at_call 42; go_must (refine H0.out.mono ?_; rintro r w1 ⟨x1, m1, q1, rfl, h1, hb1⟩))
  have HRd1 : Hid (Rd w1 (.slice x1 m1 q1) (l ++ form n ++ wsBytes ((qs.map (·.1)).take 0))) := (show Rd _ _ _ by simpa [wsBytes] using h1)
  have HB1 : Hid (Below w.heap.size w w1) := hb1
  clear h1 hb1 H0
  go_loopw [0, 13] (fun bv iv wr => ∃ (k : Nat) (x : Option Addr) (m q : Nat), iv = .int .i64 k ∧ k ≤ n ∧ bv = .slice x m q ∧ Hid (Rd wr (.slice x m q) (l ++ form n ++ wsBytes ((qs.map (·.1)).take k))) ∧ Hid (Below w.heap.size w wr)) (fun _ iv _ => n - (intOf iv).toNat)
  case atStart => exact ⟨0, x1, m1, q1, rfl, by omega, rfl, HRd1, HB1⟩
  case round =>
    clear HRd1 HB1
    obtain ⟨k, bx, bm, bq, rfl, hk, rfl, HRd, HB⟩ := hrel
    by_cases hki : k < n
    · obtain ⟨q, hq⟩ : ∃ q, qs[k]? = some q := ⟨_, List.getElem?_eq_getElem (by have := HN.out; omega)⟩
      have hq1 : (qs.map (·.1))[k]? = some q.1 := by rw [List.getElem?_map, hq]; rfl
      have HTk : Hid (wsBytes ((qs.map (·.1)).take (k + 1)) = wsBytes ((qs.map (·.1)).take k) ++ wBytes q.1) := (show _ = _ by
        have h3 := List.getElem?_eq_some_iff.1 hq1
        rw [List.take_succ_eq_append_getElem h3.1, h3.2, wsBytes_append]
        simp [wsBytes])
      obtain ⟨g, off, ea, hr⟩ := (HV.out wr HB.out).at wq_len hq
      subst ea
      obtain ⟨⟨hw1, hw2⟩, hw3⟩ := HQ.out q (List.mem_of_getElem? hq)
      obtain ⟨ax, ac, hqv⟩ := (HR.out q (List.mem_of_getElem? hq) w (Below.refl _ _)).len
      have HRq : Hid (∀ w', Below w.heap.size w w' → Rd w' q.2 q.1.b) := HR.out q (List.mem_of_getElem? hq)
      obtain ⟨⟨qw, qb⟩, qv⟩ := q
      dsimp only at hw1 hw2 hw3 hqv HRq HTk
      subst hqv
      obtain ⟨N, hN⟩ : ∃ N : Nat, qw = (N : Int) := ⟨qw.toNat, by omega⟩
      subst hN
      obtain ⟨qn, hqn⟩ : ∃ qn, qn = qb.length := ⟨_, rfl⟩
      rw [← hqn] at HRq hr
      have HQn : Hid (qb.length = 16) := hw3
      have HB2 : Hid (Below w.heap.size w (wr.alloc (.cells #[.int .i64 (N : Int), .slice ax qn ac] 81))) := (show Below _ _ _ from balloc HB.out _)
      have HX : Hid (Blk (wr.alloc (.cells #[.int .i64 (N : Int), .slice ax qn ac] 81)) wr.heap.size 81 [.int .i64 (N : Int), .slice ax qn ac]) := (show Blk _ _ _ _ from blk_new wr [.int .i64 (N : Int), .slice ax qn ac] 81)
      have HRd2 : Hid (Rd (wr.alloc (.cells #[.int .i64 (N : Int), .slice ax qn ac] 81)) (.slice bx bm bq) (l ++ form n ++ wsBytes ((qs.map (·.1)).take k))) := (show Rd _ _ _ from HRd.out.below (balloc (Below.refl _ _) _))
      have c0 := hr 0 _ rfl; have c1 := hr 1 _ rfl
      simp only [Nat.add_zero] at c0
      clear hr hq hq1 hqn hw3
      go_upto_region 5 with fail
      clear c0 c1
      obtain ⟨pb, hpb⟩ : ∃ pb, pb = wr.heap.size := ⟨_, rfl⟩
      rw [← hpb] at HX ⊢
      generalize wr.alloc (.cells #[.int .i64 (N : Int), .slice ax qn ac] 81) = w2 at *
      clear hpb
      have H42 : Hid (∀ w', Below w2.heap.size w2 w' → Calls Try.prog 42 #[.slice bx bm bq, .int .i64 (N : Int)] w' fun r w'' => ∃ x m q, r = .returned (.slice x m q) ∧ Rd w'' (.slice x m q) (l ++ form n ++ wsBytes ((qs.map (·.1)).take k) ++ form N) ∧ Below w2.heap.size w2 w'') := fun w' hb => by
        refine (put42 (HRd2.out.below hb) (by have := HLk.out k; omega) (by omega)).mono ?_
        rintro r w'' ⟨x, m, q, rfl, h1, h2⟩
        exact ⟨x, m, q, rfl, h1, bnext hb h2⟩
      have H44 : Hid (∀ w' x m q, Below w2.heap.size w2 w' → Rd w' (.slice x m q) (l ++ form n ++ wsBytes ((qs.map (·.1)).take k) ++ form N) → Calls Try.prog 44 #[.slice x m q, .slice ax qn ac] w' fun r w'' => ∃ x m q, r = .returned (.slice x m q) ∧ Rd w'' (.slice x m q) (l ++ form n ++ wsBytes ((qs.map (·.1)).take (k + 1))) ∧ Below w2.heap.size w2 w'') := fun w' x m q hb h => by
        refine (bytes44 h (HRq.out w' (bnext HB2.out hb)) (by have := HLk.out k; have h5 := form_le20 (n := N) (by omega); rw [List.length_append]; omega) (by have := HQn.out; omega)).mono ?_
        rintro r w'' ⟨x, m, q, rfl, h1, h2⟩
        refine ⟨x, m, q, rfl, ?_, bnext hb h2⟩
        rw [HTk.out]
        simpa [wBytes] using h1
      have hcl : ∀ (z : WIn (fun w' => Below w2.heap.size w2 w')) p v, w2.cell? p = some v → z.w.cell? p = some v := fun z p v hp => (z.ok.cell (World.block_lt_of_cell? w2 _ hp)).trans hp
      have e0 := fun z => hcl z _ _ (HX.out.cell 0 _ rfl); have e1 := fun z => hcl z _ _ (HX.out.cell 1 _ rfl)
      have HD : Hid (Below w2.heap.size w2 w2.drew) := (show Below _ _ _ from (Below.refl _ _).drew)
      have ne : Nonempty (WIn (fun w' => Below w2.heap.size w2 w')) := ⟨⟨w2, Below.refl _ _⟩⟩
      clear hcl
      refine wp_region_ord (C := fun w' => ∃ z : WIn (fun w' => Below w2.heap.size w2 w'), w' = z.w) [(false, 0), (false, 1), (false, 2), (false, 4), (false, 5), (true, 3), (true, 6), (false, 7)] (by kernel_rfl) (by kernel_rfl) ⟨⟨w2.drew, HD.out⟩, rfl⟩ ?_
      iterate 5 (refine ord_still rfl rfl ?_; go_big_quiet_step (fail); refine wpQuiet_nil ?_)
      refine ord_mem rfl rfl ?_
      go_simp
      refine (H42.out w2.drew HD.out).mono ?_
      rintro r w3 ⟨x3, m3, q3, rfl, h3, hb3⟩
      have HR3 : Hid (Rd w3 (.slice x3 m3 q3) (l ++ form n ++ wsBytes ((qs.map (·.1)).take k) ++ form N)) := h3
      have HB3 : Hid (Below w2.heap.size w2 w3) := hb3
      clear h3 hb3
      refine ⟨⟨⟨_, HB3.out⟩, rfl⟩, ?_⟩
      go_simp
      refine ord_mem rfl rfl ?_
      go_simp
      refine (H44.out w3 x3 m3 q3 HB3.out HR3.out).mono ?_
      rintro r w4 ⟨x4, m4, q4, rfl, h4, hb4⟩
      have HR4 : Hid (Rd w4 (.slice x4 m4 q4) (l ++ form n ++ wsBytes ((qs.map (·.1)).take (k + 1)))) := h4
      have HB4 : Hid (Below w2.heap.size w2 w4) := hb4
      clear h4 hb4
      refine ⟨⟨⟨_, HB4.out⟩, rfl⟩, ?_⟩
      go_simp
      iterate 1 (refine ord_still rfl rfl ?_; go_big_quiet_step (fail); refine wpQuiet_nil ?_)
      refine ord_end ?_
      have HB5 : Hid (Below w.heap.size w w4) := (show Below _ _ _ from bnext HB2.out HB4.out)
      clear e0 e1 ne
      go_wp2
      go_roundw
      case rel => exact ⟨k + 1, x4, m4, q4, by go_num, by omega, rfl, HR4, HB5⟩
      case measure => simp [intOf]; omega
    · have HE : Hid (Rd wr (.slice bx bm bq) (l ++ form n ++ wsBytes (qs.map (·.1)))) := (by
        have h3 := HRd.out
        rw [List.take_of_length_le (by rw [List.length_map]; have := HN.out; omega)] at h3
        exact h3)
      go_wp2
      go_ret
      exact ⟨bx, bm, bq, rfl, HE.out, HB.out⟩
theorem bytesC_len {c : Cg} (h : rightB c = true) (ho : c.o.length ≤ 100) (hp : U64 c.p) : (bytesC c).length ≤ 2000 := by
  obtain ⟨k, w, p, l, ws, o⟩ := c
  unfold U64 at hp
  have hk := right_kind h
  dsimp only at hk ho hp
  unfold rightB whoB wsB at h
  dsimp only at h
  unfold bytesC
  dsimp only
  have h0 := form_le10 (n := k.toNat) (by omega)
  rcases hk with rfl | rfl | rfl
  · simp only [if_true, Bool.and_eq_true, decide_eq_true_eq] at h
    have h1 := form_le10 (n := w.toNat) (by omega)
    have h2 := form_le10 (n := p.toNat) (by omega)
    rw [if_pos rfl]
    simp only [List.length_append]
    omega
  · simp only [show ¬ (2 : Int) = 1 by omega, if_false, if_true, Bool.and_eq_true, decide_eq_true_eq] at h
    have h1 := form_le10 (n := w.toNat) (by omega)
    have h2 := form_le10 (n := l.toNat) (by omega)
    rw [if_neg (by omega), if_pos rfl]
    simp only [List.length_append]
    omega
  · simp only [show ¬ (3 : Int) = 1 by omega, show ¬ (3 : Int) = 2 by omega, if_false, if_true, Bool.and_eq_true, decide_eq_true_eq] at h
    have hws := h.1.2.1
    have h1 := wsBytes_len ws (wsF_each hws)
    have h2 := ws_le hws
    have h3 := form_le10 (n := ws.length) (by omega)
    have h4 := form_le10 (n := o.length) (by omega)
    rw [if_neg (by omega), if_neg (by omega)]
    simp only [List.length_append]
    omega
set_option maxHeartbeats 2000000 in
theorem bytes26 {w : World} {c : Cg} {a b : Value} {qs : List Wq} (h : CgAt w c a b qs) (hn : c.ws.length ≤ 20) (ho : c.o.length ≤ 100) : Calls Try.prog 26 #[cv c a b] w fun r w' => ∃ v, r = .returned (.tuple #[v, .int .i64 (if rightB c = true then 0 else 1)]) ∧ Rd w' v (if rightB c = true then bytesC c else []) ∧ Below w.heap.size w w' := by
  obtain ⟨w1, hw1⟩ : ∃ w1, w1 = w.alloc (.cells (cc c a b).toArray 38) := ⟨_, rfl⟩
  have hb1 : Below w.heap.size w w1 := by rw [hw1]; exact balloc (Below.refl _ _) _
  have X1 : Hid (Blk w1 w.heap.size 38 (cc c a b)) := by rw [hw1]; exact blk_new w _ 38
  have HR : Hid (Calls Try.prog 27 #[cv c a b] w1 fun r w' => r = .returned (.bool (rightB c)) ∧ Below w1.heap.size w1 w') := (show Calls _ _ _ _ _ from right27 (h.below hb1))
  have HB1 : Hid (Below w.heap.size w w1) := hb1
  have HCg : Hid (∀ w', Below w1.heap.size w1 w' → CgAt w' c a b qs) := fun w' hb => (h.below hb1).below hb
  have HW1 : Hid (w1 = w.alloc (.cells (cc c a b).toArray 38)) := hw1
  have HP : Hid (U64 c.p) := h.p
  have HLq : Hid (qs.length = c.ws.length) := h.len
  have HWq : Hid (qs.map (·.1) = c.ws) := h.ws
  obtain ⟨⟨xa, na, pa, rfl⟩, xb, nb, pb, rfl⟩ := slices_of h
  have z0 := X1.out.cell 0 _ rfl; have z1 := X1.out.cell 1 _ rfl; have z2 := X1.out.cell 2 _ rfl; have z3 := X1.out.cell 3 _ rfl; have z4 := X1.out.cell 4 _ rfl; have z5 := X1.out.cell 5 _ rfl
  clear h hw1 hb1
  cases hrb : rightB c
  · rw [hrb] at HR
    simp only [Bool.false_eq_true, if_false]
    obtain ⟨ck, cw, cp, cm, cws, co⟩ := c
    unfold cv cc at *
    dsimp only at *
    go_enter Try.func26, Try.ntmps26
    go_upto_region 1 with fail
    rw [← HW1.out]
    go_wp2_with (go_at_call 27; go_must (refine HR.out.mono ?_; rintro r w2 ⟨rfl, hb2⟩; have HB2 : Hid (Below w.heap.size w w2) := (show Below _ _ _ from bnext HB1.out hb2); clear hb2))
    refine bodyPost_ret (v := .tuple #[.slice none 0 0, .int .i64 1]) ?_ rfl ⟨_, rfl, rd_nil _, HB2.out⟩
    rw [results_tmp2 rfl]
    go_simp
  · rw [hrb] at HR
    simp only [if_true]
    have HRb : Hid (rightB c = true) := hrb
    have hkk := right_kind hrb
    have HBL : Hid ((bytesC c).length ≤ 2000) := bytesC_len hrb ho HP.out
    obtain ⟨K, hK⟩ : ∃ K : Nat, c.k = (K : Int) := ⟨c.k.toNat, by omega⟩
    have HK : Hid (c.k = (K : Int)) := hK
    have H42 : Hid (∀ w', Below w1.heap.size w1 w' → Calls Try.prog 42 #[.slice none 0 0, .int .i64 (K : Int)] w' fun r w'' => ∃ x m q, r = .returned (.slice x m q) ∧ Rd w'' (.slice x m q) (form K) ∧ Below w1.heap.size w1 w'') := fun w' hb => by
      refine (put42 (rd_nil w') (by simp) (by omega)).mono ?_
      rintro r w'' ⟨x, m, q, rfl, h1, h2⟩
      exact ⟨x, m, q, rfl, by simpa using h1, bnext hb h2⟩
    obtain ⟨ck, cw, cp, cm, cws, co⟩ := c
    unfold cv cc at *
    dsimp only at *
    subst hK
    clear HK hrb
    have H27 : Hid (Calls Try.prog 27 #[.agg #[.int .i64 (K : Int), .int .i64 cw, .int .u64 cp, .int .i64 cm, .slice xa na pa, .slice xb nb pb]] w1 fun r w' => r = .returned (.bool true) ∧ Below w1.heap.size w1 w') := HR
    clear HR
    go_enter Try.func26, Try.ntmps26
    go_upto_region 1 with fail
    rw [← HW1.out]
    go_upto_region 4 with (first
      | (go_at_call 27; go_must (refine H27.out.mono ?_; rintro r w2 ⟨rfl, hb2⟩; have HB2 : Hid (Below w1.heap.size w1 w2) := hb2; clear hb2; have y0 := (X1.out.below HB2.out).cell 0 _ rfl))
      | (go_at_call 42; go_must (refine (H42.out w2 HB2.out).mono ?_; rintro r w3 ⟨x3, m3, q3, rfl, h3, hb3⟩; have HR3 : Hid (Rd w3 (.slice x3 m3 q3) (form K)) := h3; have HB3 : Hid (Below w1.heap.size w1 w3) := hb3; clear h3 hb3)))
    clear z0 z1 z2 z3 z4 z5 y0
    have X3 := X1.out.below HB3.out
    have z0 := X3.cell 0 _ rfl
    have hcl : ∀ (z : WIn (fun w' => Below w3.heap.size w3 w')) p v, w3.cell? p = some v → z.w.cell? p = some v := fun z p v hp => (z.ok.cell (World.block_lt_of_cell? w3 _ hp)).trans hp
    have e1 := fun z => hcl z _ _ (X3.cell 1 _ rfl); have e2 := fun z => hcl z _ _ (X3.cell 2 _ rfl); have e3 := fun z => hcl z _ _ (X3.cell 3 _ rfl); have e4 := fun z => hcl z _ _ (X3.cell 4 _ rfl); have e5 := fun z => hcl z _ _ (X3.cell 5 _ rfl)
    have HD : Hid (Below w3.heap.size w3 w3.drew) := (show Below _ _ _ from (Below.refl _ _).drew)
    have ne : Nonempty (WIn (fun w' => Below w3.heap.size w3 w')) := ⟨⟨w3, Below.refl _ _⟩⟩
    have HFin : Hid (∀ w', Below w3.heap.size w3 w' → Below w.heap.size w w') := fun w' hb => bnext (bnext HB1.out HB3.out) hb
    have HC3 : Hid (∀ w', Below w3.heap.size w3 w' → CgAt w' ⟨(K : Int), cw, cp, cm, cws, co⟩ (.slice xa na pa) (.slice xb nb pb) qs) := fun w' hb => HCg.out w' (bnext HB3.out hb)
    have hU := HP.out
    unfold U64 at hU
    have hRb := HRb.out
    unfold rightB whoB wsB at hRb
    dsimp only at hRb
    have hL3 : (form K).length ≤ 10 := form_le10 (by omega)
    have HL3 : Hid ((form K).length ≤ 10) := hL3
    clear hcl X3 hL3 HW1 X1 HB1 HCg H42 H27
    rcases hkk with hk | hk | hk
    · have hK1 : K = 1 := by omega
      subst hK1
      simp only [Int.natCast_one, if_true, Bool.and_eq_true, decide_eq_true_eq] at hRb
      obtain ⟨N, hN⟩ : ∃ N : Nat, cw = (N : Int) := ⟨cw.toNat, by omega⟩
      obtain ⟨P, hP⟩ : ∃ P : Nat, cp = (P : Int) := ⟨cp.toNat, by omega⟩
      subst hN hP
      have hN7 : N ≤ 7 := by omega
      have HA : Hid (∀ w', Below w3.heap.size w3 w' → Calls Try.prog 42 #[.slice x3 m3 q3, .int .i64 (N : Int)] w' fun r w'' => ∃ x m q, r = .returned (.slice x m q) ∧ Rd w'' (.slice x m q) (form 1 ++ form N) ∧ Below w3.heap.size w3 w'') := fun w' hb => by
        refine (put42 (HR3.out.below hb) (by have := HL3.out; omega) (by omega)).mono ?_
        rintro r w'' ⟨x, m, q, rfl, h1, h2⟩
        exact ⟨x, m, q, rfl, h1, bnext hb h2⟩
      have HE : Hid (∀ w' x m q, Below w3.heap.size w3 w' → Rd w' (.slice x m q) (form 1 ++ form N) → Calls Try.prog 43 #[.slice x m q, .int .u64 (P : Int)] w' fun r w'' => ∃ x m q, r = .returned (.slice x m q) ∧ Rd w'' (.slice x m q) (bytesC ⟨1, (N : Int), (P : Int), cm, cws, co⟩) ∧ Below w3.heap.size w3 w'') := fun w' x m q hb h => by
        refine (num43 h (by have h1 := HL3.out; have h2 := form_le10 (n := N) (by omega); rw [List.length_append]; omega) (by omega)).mono ?_
        rintro r w'' ⟨x, m, q, rfl, h1, h2⟩
        refine ⟨x, m, q, rfl, ?_, bnext hb h2⟩
        have e : bytesC ⟨1, (N : Int), (P : Int), cm, cws, co⟩ = form 1 ++ form N ++ form P := by simp [bytesC]
        rw [e]
        exact h1
      clear hRb hU hN7
      go_upto_region 6 with fail
      refine wp_region_ord (C := fun w' => ∃ z : WIn (fun w' => Below w3.heap.size w3 w'), w' = z.w) [(false, 0), (false, 1), (false, 2), (false, 4), (false, 5), (true, 3), (true, 6), (false, 7)] (by kernel_rfl) (by kernel_rfl) ⟨⟨w3.drew, HD.out⟩, rfl⟩ ?_
      iterate 5 (refine ord_still rfl rfl ?_; go_big_quiet_step (fail); refine wpQuiet_nil ?_)
      refine ord_mem rfl rfl ?_
      go_simp
      refine (HA.out w3.drew HD.out).mono ?_
      rintro r w4 ⟨x4, m4, q4, rfl, h4, hb4⟩
      have HR4 : Hid (Rd w4 (.slice x4 m4 q4) (form 1 ++ form N)) := h4
      have HB4 : Hid (Below w3.heap.size w3 w4) := hb4
      clear h4 hb4
      refine ⟨⟨⟨_, HB4.out⟩, rfl⟩, ?_⟩
      go_simp
      refine ord_mem rfl rfl ?_
      go_simp
      refine (HE.out w4 x4 m4 q4 HB4.out HR4.out).mono ?_
      rintro r w5 ⟨x5, m5, q5, rfl, h5, hb5⟩
      have HR5 : Hid (Rd w5 (.slice x5 m5 q5) (bytesC ⟨1, (N : Int), (P : Int), cm, cws, co⟩)) := h5
      have HB5 : Hid (Below w3.heap.size w3 w5) := hb5
      clear h5 hb5
      refine ⟨⟨⟨_, HB5.out⟩, rfl⟩, ?_⟩
      go_simp
      iterate 1 (refine ord_still rfl rfl ?_; go_big_quiet_step (fail); refine wpQuiet_nil ?_)
      refine ord_end ?_
      have HBz : Hid (Below w.heap.size w w5) := (show Below _ _ _ from HFin.out w5 HB5.out)
      clear e1 e2 e3 e4 e5 ne z0
      go_wp2
      refine bodyPost_ret (v := .tuple #[.slice x5 m5 q5, .int .i64 0]) ?_ rfl ⟨_, rfl, HR5.out, HBz.out⟩
      rw [results_tmp2 rfl]
      go_simp
    · have hK1 : K = 2 := by omega
      subst hK1
      simp only [show ((2 : Nat) : Int) = 2 by omega, show ¬ (2 : Int) = 1 by omega, if_false, if_true, Bool.and_eq_true, decide_eq_true_eq] at hRb
      obtain ⟨N, hN⟩ : ∃ N : Nat, cw = (N : Int) := ⟨cw.toNat, by omega⟩
      obtain ⟨P, hP⟩ : ∃ P : Nat, cm = (P : Int) := ⟨cm.toNat, by omega⟩
      subst hN hP
      have hN7 : N ≤ 7 := by omega
      have hP7 : P ≤ 200 := by omega
      have HA : Hid (∀ w', Below w3.heap.size w3 w' → Calls Try.prog 42 #[.slice x3 m3 q3, .int .i64 (N : Int)] w' fun r w'' => ∃ x m q, r = .returned (.slice x m q) ∧ Rd w'' (.slice x m q) (form 2 ++ form N) ∧ Below w3.heap.size w3 w'') := fun w' hb => by
        refine (put42 (HR3.out.below hb) (by have := HL3.out; omega) (by omega)).mono ?_
        rintro r w'' ⟨x, m, q, rfl, h1, h2⟩
        exact ⟨x, m, q, rfl, h1, bnext hb h2⟩
      have HE : Hid (∀ w' x m q, Below w3.heap.size w3 w' → Rd w' (.slice x m q) (form 2 ++ form N) → Calls Try.prog 42 #[.slice x m q, .int .i64 (P : Int)] w' fun r w'' => ∃ x m q, r = .returned (.slice x m q) ∧ Rd w'' (.slice x m q) (bytesC ⟨2, (N : Int), cp, (P : Int), cws, co⟩) ∧ Below w3.heap.size w3 w'') := fun w' x m q hb h => by
        refine (put42 h (by have h1 := HL3.out; have h2 := form_le10 (n := N) (by omega); rw [List.length_append]; omega) (by omega)).mono ?_
        rintro r w'' ⟨x, m, q, rfl, h1, h2⟩
        refine ⟨x, m, q, rfl, ?_, bnext hb h2⟩
        have e : bytesC ⟨2, (N : Int), cp, (P : Int), cws, co⟩ = form 2 ++ form N ++ form P := by simp [bytesC]
        rw [e]
        exact h1
      clear hRb hU hN7 hP7
      go_upto_region 8 with fail
      refine wp_region_ord (C := fun w' => ∃ z : WIn (fun w' => Below w3.heap.size w3 w'), w' = z.w) [(false, 0), (false, 1), (false, 2), (false, 4), (false, 5), (true, 3), (true, 6), (false, 7)] (by kernel_rfl) (by kernel_rfl) ⟨⟨w3.drew, HD.out⟩, rfl⟩ ?_
      iterate 5 (refine ord_still rfl rfl ?_; go_big_quiet_step (fail); refine wpQuiet_nil ?_)
      refine ord_mem rfl rfl ?_
      go_simp
      refine (HA.out w3.drew HD.out).mono ?_
      rintro r w4 ⟨x4, m4, q4, rfl, h4, hb4⟩
      have HR4 : Hid (Rd w4 (.slice x4 m4 q4) (form 2 ++ form N)) := h4
      have HB4 : Hid (Below w3.heap.size w3 w4) := hb4
      clear h4 hb4
      refine ⟨⟨⟨_, HB4.out⟩, rfl⟩, ?_⟩
      go_simp
      refine ord_mem rfl rfl ?_
      go_simp
      refine (HE.out w4 x4 m4 q4 HB4.out HR4.out).mono ?_
      rintro r w5 ⟨x5, m5, q5, rfl, h5, hb5⟩
      have HR5 : Hid (Rd w5 (.slice x5 m5 q5) (bytesC ⟨2, (N : Int), cp, (P : Int), cws, co⟩)) := h5
      have HB5 : Hid (Below w3.heap.size w3 w5) := hb5
      clear h5 hb5
      refine ⟨⟨⟨_, HB5.out⟩, rfl⟩, ?_⟩
      go_simp
      iterate 1 (refine ord_still rfl rfl ?_; go_big_quiet_step (fail); refine wpQuiet_nil ?_)
      refine ord_end ?_
      have HBz : Hid (Below w.heap.size w w5) := (show Below _ _ _ from HFin.out w5 HB5.out)
      clear e1 e2 e3 e4 e5 ne z0
      go_wp2
      refine bodyPost_ret (v := .tuple #[.slice x5 m5 q5, .int .i64 0]) ?_ rfl ⟨_, rfl, HR5.out, HBz.out⟩
      rw [results_tmp2 rfl]
      go_simp
    · have hK1 : K = 3 := by omega
      subst hK1
      simp only [show ((3 : Nat) : Int) = 3 by omega, show ¬ (3 : Int) = 1 by omega, show ¬ (3 : Int) = 2 by omega, if_false, if_true, Bool.and_eq_true, decide_eq_true_eq] at hRb
      have hws := wsF_each hRb.1.2.1
      have HWs : Hid (∀ q ∈ qs, (0 ≤ q.1.w ∧ q.1.w ≤ 7) ∧ q.1.b.length = 16) := fun q hq => hws q.1 (by rw [← HWq.out]; exact List.mem_map.2 ⟨q, hq, rfl⟩)
      have HLw : Hid ((form 3 ++ form qs.length ++ wsBytes cws).length ≤ 1000) := (show _ ≤ _ by
        have h1 := wsBytes_len cws hws
        have h2 := ws_le hRb.1.2.1
        have h3 := form_le10 (n := qs.length) (by have := HLq.out; omega)
        have h4 := HL3.out
        simp only [List.length_append]
        omega)
      have HA : Hid (∀ w', Below w3.heap.size w3 w' → Calls Try.prog 45 #[.slice x3 m3 q3, .slice xa na pa] w' fun r w'' => ∃ x m q, r = .returned (.slice x m q) ∧ Rd w'' (.slice x m q) (form 3 ++ form qs.length ++ wsBytes cws) ∧ Below w3.heap.size w3 w'') := fun w' hb => by
        have hw0 := putWraps45 (HR3.out.below hb) (by have := HL3.out; omega) (HC3.out w' hb).row (HC3.out w' hb).rd HWs.out (by have := HLq.out; omega)
        rw [HWq.out] at hw0
        refine hw0.mono ?_
        rintro r w'' ⟨x, m, q, rfl, h1, h2⟩
        exact ⟨x, m, q, rfl, h1, bnext hb h2⟩
      have HE : Hid (∀ w' x m q, Below w3.heap.size w3 w' → Rd w' (.slice x m q) (form 3 ++ form qs.length ++ wsBytes cws) → Calls Try.prog 44 #[.slice x m q, .slice xb nb pb] w' fun r w'' => ∃ x m q, r = .returned (.slice x m q) ∧ Rd w'' (.slice x m q) (bytesC ⟨3, cw, cp, cm, cws, co⟩) ∧ Below w3.heap.size w3 w'') := fun w' x m q hb h => by
        refine (bytes44 h (HC3.out w' hb).old (by have := HLw.out; omega) (by show co.length ≤ 1000000; omega)).mono ?_
        rintro r w'' ⟨x, m, q, rfl, h1, h2⟩
        refine ⟨x, m, q, rfl, ?_, bnext hb h2⟩
        have e : bytesC ⟨3, cw, cp, cm, cws, co⟩ = form 3 ++ form qs.length ++ wsBytes cws ++ form co.length ++ co := by simp [bytesC, HLq.out]
        rw [e]
        exact h1
      clear hRb hU hws
      go_upto_region 10 with fail
      refine wp_region_ord (C := fun w' => ∃ z : WIn (fun w' => Below w3.heap.size w3 w'), w' = z.w) [(false, 0), (false, 1), (false, 2), (false, 4), (false, 5), (true, 3), (true, 6), (false, 7)] (by kernel_rfl) (by kernel_rfl) ⟨⟨w3.drew, HD.out⟩, rfl⟩ ?_
      iterate 5 (refine ord_still rfl rfl ?_; go_big_quiet_step (fail); refine wpQuiet_nil ?_)
      refine ord_mem rfl rfl ?_
      go_simp
      refine (HA.out w3.drew HD.out).mono ?_
      rintro r w4 ⟨x4, m4, q4, rfl, h4, hb4⟩
      have HR4 : Hid (Rd w4 (.slice x4 m4 q4) (form 3 ++ form qs.length ++ wsBytes cws)) := h4
      have HB4 : Hid (Below w3.heap.size w3 w4) := hb4
      clear h4 hb4
      refine ⟨⟨⟨_, HB4.out⟩, rfl⟩, ?_⟩
      go_simp
      refine ord_mem rfl rfl ?_
      go_simp
      refine (HE.out w4 x4 m4 q4 HB4.out HR4.out).mono ?_
      rintro r w5 ⟨x5, m5, q5, rfl, h5, hb5⟩
      have HR5 : Hid (Rd w5 (.slice x5 m5 q5) (bytesC ⟨3, cw, cp, cm, cws, co⟩)) := h5
      have HB5 : Hid (Below w3.heap.size w3 w5) := hb5
      clear h5 hb5
      refine ⟨⟨⟨_, HB5.out⟩, rfl⟩, ?_⟩
      go_simp
      iterate 1 (refine ord_still rfl rfl ?_; go_big_quiet_step (fail); refine wpQuiet_nil ?_)
      refine ord_end ?_
      have HBz : Hid (Below w.heap.size w w5) := (show Below _ _ _ from HFin.out w5 HB5.out)
      clear e1 e2 e3 e4 e5 ne z0
      go_wp2
      refine bodyPost_ret (v := .tuple #[.slice x5 m5 q5, .int .i64 0]) ?_ rfl ⟨_, rfl, HR5.out, HBz.out⟩
      rw [results_tmp2 rfl]
      go_simp
end Go.Proofs.Ytgoghmabhdkdjaa
