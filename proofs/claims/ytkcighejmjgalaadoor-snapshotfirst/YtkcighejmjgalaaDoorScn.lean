/-
  What stands in sectors: readable, number, joined, latest, standing, Scan of the program.
-/
import Derived.Test.YtkcighejmjgalaaDoorFrm
namespace Go.Proofs.YtkcighejmjgalaaDoor
set_option linter.unusedVariables false
set_option linter.unusedSimpArgs false
set_option synthInstance.maxSize 20000
set_option maxHeartbeats 2000000
set_option maxRecDepth 20000
open Go.RowKit Go.Maps

theorem readable56 {w : World} {v : Value} {l : List Int} (h : Rd w v l) : Calls Tryd.prog 71 #[v] w fun r w' => r = .returned (.bool (decide (l.length = 64))) ∧ w' = w := by
  obtain ⟨a, c, rfl⟩ := h.len
  have hc := h.cap
  by_cases h0 : l.length = 64
  · have e : ((l.length : Int) == 64) = true := by simp [h0]
    rw [decide_eq_true h0]
    generalize l.length = n at *
    clear h h0
    go_enter Tryd.func71, Tryd.ntmps71
    go_wp2
    go_ret
    exact ⟨rfl, rfl⟩
  · have e : ((l.length : Int) == 64) = false := by simp; omega
    rw [decide_eq_false h0]
    generalize l.length = n at *
    clear h h0
    go_enter Tryd.func71, Tryd.ntmps71
    go_wp2
    go_ret
    exact ⟨rfl, rfl⟩

/-- Bytes that lie in a block. -/
theorem Rd.spot {w : World} {v : Value} {l : List Int} (h : Rd w v l) (hl : 0 < l.length) : ∃ b off cap, v = .slice (some ⟨b, off, none⟩) l.length cap ∧ l.length ≤ cap ∧ cap ≤ 9223372036854775807 ∧ b < w.heap.size ∧ ∀ j, j < l.length → w.cell? ⟨b, off + j, none⟩ = some (.int .u8 (l.getD j 0)) := by
  obtain ⟨ho, a, cap, rfl, h1, h2, h3, h4⟩ := h
  obtain ⟨b, off, rfl, hc⟩ := h4 hl
  exact ⟨b, off, cap, rfl, h1, by unfold maxLen at h2; omega, World.block_lt_of_cell? w _ (hc 0 hl), hc⟩

/-- Four bytes in a world. -/
structure Four (b off : Nat) (x0 x1 x2 x3 : Int) (w : World) : Prop where
  c0 : w.cell? ⟨b, off, none⟩ = some (.int .u8 x0)
  c1 : w.cell? ⟨b, off + 1, none⟩ = some (.int .u8 x1)
  c2 : w.cell? ⟨b, off + 2, none⟩ = some (.int .u8 x2)
  c3 : w.cell? ⟨b, off + 3, none⟩ = some (.int .u8 x3)
theorem wraps_u32 (n : Int) (h₀ : 0 ≤ n) (h₁ : n < 2 ^ 32) : IntKind.u32.wrap n = n := by rw [IntKind.wrap_u32]; omega
theorem or_u32 (k : Nat) (x y : Int) (h0 : 0 ≤ x) (hx : x % 2 ^ k = 0) (h1 : x < 2 ^ 32) (y0 : 0 ≤ y) (y1 : y < 2 ^ k) (hk : k ≤ 32) : bits .or .u32 x y = x + y := by
  have h2 : (2 : Int) ^ k ≤ 2 ^ 32 := by
    have : (2 : Nat) ^ k ≤ 2 ^ 32 := Nat.pow_le_pow_right (by omega) hk
    exact_mod_cast this
  have h3 : y < 2 ^ 32 := Int.lt_of_lt_of_le y1 h2
  exact bits_join .u32 32 (by decide) wraps_u32 k x y h0 hx h1 y0 y1 h3
theorem number58 {w : World} {v : Value} {l : List Int} (h : Rd w v l) (hl : 4 ≤ l.length) : Calls Tryd.prog 73 #[v] w fun r w' => r = .returned (.int .u32 (num4 l)) ∧ Below w.heap.size w w' := by
  obtain ⟨b, off, cap, rfl, hc1, hc2, hbw, hc⟩ := h.spot (by omega)
  have o0 := h.oct.at 0
  have o1 := h.oct.at 1
  have o2 := h.oct.at 2
  have o3 := h.oct.at 3
  have F : Four b off (l.getD 0 0) (l.getD 1 0) (l.getD 2 0) (l.getD 3 0) w := ⟨hc 0 (by omega), hc 1 (by omega), hc 2 (by omega), hc 3 (by omega)⟩
  have HV : Hid (bits .or .u32 (bits .or .u32 (bits .or .u32 (l.getD 0 0 * 16777216) (l.getD 1 0 * 65536)) (l.getD 2 0 * 256)) (l.getD 3 0) = num4 l) := by
    show _ = _
    rw [or_u32 24 (l.getD 0 0 * 16777216) (l.getD 1 0 * 65536) (by omega) (by omega) (by omega) (by omega) (by omega) (by omega), or_u32 16 (l.getD 0 0 * 16777216 + l.getD 1 0 * 65536) (l.getD 2 0 * 256) (by omega) (by omega) (by omega) (by omega) (by omega) (by omega), or_u32 8 (l.getD 0 0 * 16777216 + l.getD 1 0 * 65536 + l.getD 2 0 * 256) (l.getD 3 0) (by omega) (by omega) (by omega) (by omega) (by omega) (by omega)]
    rfl
  generalize l.getD 0 0 = x0 at *
  generalize l.getD 1 0 = x1 at *
  generalize l.getD 2 0 = x2 at *
  generalize l.getD 3 0 = x3 at *
  generalize num4 l = N at *
  generalize l.length = n at *
  have ne : Nonempty (WIn (Four b off x0 x1 x2 x3)) := ⟨⟨w, F⟩⟩
  have e0 : ∀ z : WIn (Four b off x0 x1 x2 x3), z.w.cell? ⟨b, off, none⟩ = some (.int .u8 x0) := fun z => z.ok.c0
  have e1 : ∀ z : WIn (Four b off x0 x1 x2 x3), z.w.cell? ⟨b, off + 1, none⟩ = some (.int .u8 x1) := fun z => z.ok.c1
  have e2 : ∀ z : WIn (Four b off x0 x1 x2 x3), z.w.cell? ⟨b, off + 2, none⟩ = some (.int .u8 x2) := fun z => z.ok.c2
  have e3 : ∀ z : WIn (Four b off x0 x1 x2 x3), z.w.cell? ⟨b, off + 3, none⟩ = some (.int .u8 x3) := fun z => z.ok.c3
  have HFd : Hid (Four b off x0 x1 x2 x3 w.drew) := ⟨F.c0, F.c1, F.c2, F.c3⟩
  have HB : Hid (Below w.heap.size w w.drew) := (Below.refl _ _).drew
  clear h hc F
  go_enter Tryd.func73, Tryd.ntmps73
  go_upto_region 1 with fail
  refine wp_region_tree (C := fun w' => ∃ z : WIn (Four b off x0 x1 x2 x3), w' = z.w)
    (.still 0 (.still 1 (.still 2 (.still 3 (.still 4 (.still 5 (.still 6 (.still 7 (.still 8 (.still 9 (.still 10 (.still 11 (.still 12 (.still 13 (.still 14 (.still 15 (.still 16 (.still 17 (.still 18 (.still 19 (.still 20 (.still 21 (.still 22 .done)))))))))))))))))))))))
    (by kernel_rfl) (by kernel_rfl) ⟨⟨w.drew, HFd.out⟩, rfl⟩ ?_
  generalize w.drew = wd at *
  iterate 23 (refine tree_still rfl rfl ?_; go_big_quiet_step (fail); refine wpQuiet_nil ?_)
  refine tree_done ?_
  clear e0 e1 e2 e3 ne
  go_wp2
  go_ret
  exact ⟨by rw [← HV.out]; rfl, HB.out⟩

theorem rd_sub {w : World} {b off cap i n : Nat} {l : List Int} (h : Rd w (.slice (some ⟨b, off, none⟩) l.length cap) l) (hi : i + n ≤ l.length) : Rd w (.slice (some ⟨b, off + i, none⟩) n (cap - i)) ((l.drop i).take n) := by
  obtain ⟨ho, a', cap', e, h1, h2, h3, h4⟩ := h
  obtain ⟨rfl, rfl⟩ : some ⟨b, off, none⟩ = a' ∧ cap = cap' := by simpa using e
  have hln : ((l.drop i).take n).length = n := by rw [List.length_take, List.length_drop]; omega
  refine ⟨(ho.drop i).take n, some ⟨b, off + i, none⟩, cap - i, by rw [hln], by rw [hln]; omega, by omega, (fun h => by cases h), fun hp => ⟨b, off + i, rfl, fun j hj => ?_⟩⟩
  rw [hln] at hj hp
  obtain ⟨b', off', e', hc⟩ := h4 (by omega)
  cases e'
  rw [Nat.add_assoc, hc (i + j) (by omega)]
  simp [List.getD_eq_getElem?_getD, List.getElem?_take, hj]
theorem own_empty' (w : World) : Own w.heap.size 5 (w.alloc (.cells #[] 5)) (.slice (some ⟨w.heap.size, 0, none⟩) 0 0) [] := ⟨Oct.nil, rfl, .inr ⟨w.heap.size, 0, #[], rfl, Nat.le_refl _, heap_alloc_new w _, Nat.le_refl _, Nat.zero_le _, rfl, rfl⟩⟩
theorem join_snoc {l : List (List Int)} {k : Nat} {s : List Int} (h : l[k]? = some s) : joinL (l.take (k + 1)) = joinL (l.take k) ++ bodyOf s := by
  obtain ⟨hk, rfl⟩ := List.getElem?_eq_some_iff.1 h
  unfold joinL
  rw [List.take_succ_eq_append_getElem hk, List.flatMap_append]
  simp only [List.flatMap_cons, List.flatMap_nil, List.append_nil]
theorem take_len_le {l : List (List Int)} {k m : Nat} (h : l.length ≤ m) : (joinL (l.take k)).length ≤ 48 * m := by
  have h1 := joinL_len (l.take k)
  have h2 : (l.take k).length ≤ l.length := by rw [List.length_take]; omega
  omega
theorem joined57 {w : World} {v : Value} {qs : List VB} (h : RL w v qs) (hl : qs.length ≤ 400) : Calls Tryd.prog 72 #[v] w fun r w' => ∃ v', r = .returned v' ∧ Own w.heap.size 5 w' v' (joinL (LL qs)) ∧ Below w.heap.size w w' := by
  obtain ⟨a, cap, rfl⟩ := h.len
  have hcap := h.row.caps
  have H : Hid (RL w (.slice a qs.length cap) qs) := h
  obtain ⟨m, hm⟩ : ∃ m, m = qs.length := ⟨_, rfl⟩
  have HM : Hid (m = qs.length) := hm
  rw [← hm] at hl hcap ⊢
  have hm1 : m ≤ cap := hcap.2.1
  have hm2 : cap ≤ 9223372036854775807 := hcap.2.2
  clear hcap h hm
  have HO : Hid (Own w.heap.size 5 (w.alloc (.cells #[] 5)) (.slice (some ⟨w.heap.size, 0, none⟩) 0 0) (joinL ((LL qs).take 0)) ∧ Below w.heap.size w (w.alloc (.cells #[] 5))) := ⟨own_empty' w, balloc (Below.refl _ _) _⟩
  go_enter Tryd.func72, Tryd.ntmps72
  go_wp2
  go_loopw [3, 10] (fun ov kv wr => ∃ (k : Nat), k ≤ m ∧ kv = .int .i64 k ∧ Hid (Own w.heap.size 5 wr ov (joinL ((LL qs).take k)) ∧ Below w.heap.size w wr)) (fun _ kv _ => m - (intOf kv).toNat)
  case atStart => exact ⟨0, Nat.zero_le _, rfl, HO⟩
  case round =>
    obtain ⟨k, hk, rfl, hO⟩ := hrel
    by_cases hlt : k < m
    · obtain ⟨q, hq⟩ : ∃ q, qs[k]? = some q := ⟨_, List.getElem?_eq_getElem (by rw [← HM.out]; exact hlt)⟩
      obtain ⟨bb, off, rfl, hcell⟩ := (H.out.below hO.out.2).at hq
      have hqr : Rd wr q.1 q.2 := (H.out.below hO.out.2).rd q (List.mem_of_getElem? hq)
      have HJ : Hid (joinL ((LL qs).take (k + 1)) = joinL ((LL qs).take k) ++ bodyOf q.2) := join_snoc (LL_at hq)
      have HJL : Hid ((joinL ((LL qs).take k)).length ≤ 48 * 400) := take_len_le (by rw [LL_len, ← HM.out]; exact hl)
      obtain ⟨qv, s⟩ := q
      simp only at hcell hqr HJ
      have HR56 : Hid (Calls Tryd.prog 71 #[qv] wr fun r w' => r = .returned (.bool (decide (s.length = 64))) ∧ w' = wr) := readable56 hqr
      by_cases h64 : s.length = 64
      · obtain ⟨sb, so, sc, hqv, hs1, hs2, hs3, hs4⟩ := hqr.spot (by omega)
        subst hqv
        have c15 := hs4 15 (by omega)
        have o15 := hqr.oct.at 15
        obtain ⟨nn, hnn⟩ : ∃ nn, nn = min 48 (s.getD 15 0).toNat := ⟨_, rfl⟩
        have hmin : (if s.getD 15 0 < 48 then s.getD 15 0 else 48) = (nn : Int) := by split <;> omega
        have hn48 : nn ≤ 48 := by omega
        have hbody : bodyOf s = (s.drop 16).take nn := by unfold bodyOf; rw [if_pos h64, hnn]
        have hsub := rd_sub (i := 16) (n := nn) hqr (by omega)
        rw [← hbody] at hsub
        rw [decide_eq_true h64] at HR56
        rw [h64] at hs1 HR56
        generalize s.getD 15 0 = x15 at *
        have HSub : Hid (Rd wr (.slice (some ⟨sb, so + 16, none⟩) (16 + nn - 16) (sc - 16)) (bodyOf s)) := by
          rw [Nat.add_sub_cancel_left]
          exact hsub
        rw [h64] at hcell
        have hbl : (bodyOf s).length = nn := by rw [hbody, List.length_take, List.length_drop]; omega
        have HBL : Hid ((bodyOf s).length = nn) := hbl
        clear hs4 hqr hnn hbody hsub h64 hbl hs3
        go_wp2_with (first
          | (go_at_call 71; go_must (refine HR56.out.mono ?_; rintro r w2 ⟨rfl, hw2⟩; replace hw2 := hw2.symm; subst hw2))
          | (at_builtin; go_must (refine wpList_append_cells 30 5 byteTy rfl (.tmp 21) (.tmp 25) rfl w.heap.size _ (joinL ((LL qs).take k)) rfl hO.out.1 _ (bodyOf s) rfl HSub.out (by rw [HBL.out]; have := HJL.out; omega) hO.out.2.size ?_; intro v3 w3 hown3 hg3; have HO3 : Hid (Own w.heap.size 5 w3 v3 (joinL ((LL qs).take (k + 1))) ∧ Below w.heap.size w w3) := ⟨by rw [HJ.out]; exact hown3, hO.out.1.below hO.out.2 (Nat.le_refl _) hg3⟩; clear hown3 hg3)))
        go_roundw
        case rel => exact ⟨k + 1, by omega, by go_num, HO3⟩
        case measure => simp [intOf]; omega
      · have hb0 : bodyOf s = [] := by unfold bodyOf; rw [if_neg h64]
        rw [hb0, List.append_nil] at HJ
        rw [← HJ.out] at hO
        rw [decide_eq_false h64] at HR56
        obtain ⟨sa, sc, hqv⟩ := hqr.len
        subst hqv
        clear hqr hb0 h64
        go_wp2_with (go_at_call 71; go_must (refine HR56.out.mono ?_; rintro r w2 ⟨rfl, hw2⟩; replace hw2 := hw2.symm; subst hw2))
        go_roundw
        case rel => exact ⟨k + 1, by omega, by go_num, hO⟩
        case measure => simp [intOf]; omega
    · obtain rfl : k = m := by omega
      have HE : Hid (joinL ((LL qs).take k) = joinL (LL qs)) := by
        show _ = _
        rw [List.take_of_length_le (by rw [LL_len, HM.out]; exact Nat.le_refl _)]
      rw [HE.out] at hO
      go_wp2
      go_ret
      exact ⟨_, rfl, hO.out.1, hO.out.2⟩

theorem latest38 {w : World} {v : Value} {qs : List VB} {gen : Int} (h : RL w v qs) (hl : qs.length ≤ 400) (hg : U32 gen) : Calls Tryd.prog 64 #[v, .int .u32 gen] w fun r w' => r = .returned (.int .u32 (latest (LL qs) gen)) ∧ Below w.heap.size w w' := by
  obtain ⟨a, cap, rfl⟩ := h.len
  have hcap := h.row.caps
  have H : Hid (RL w (.slice a qs.length cap) qs) := h
  obtain ⟨m, hm⟩ : ∃ m, m = qs.length := ⟨_, rfl⟩
  have HM : Hid (m = qs.length) := hm
  rw [← hm] at hl hcap ⊢
  have hm1 : m ≤ cap := hcap.2.1
  have hm2 : cap ≤ 9223372036854775807 := hcap.2.2
  clear hcap h hm
  go_enter Tryd.func64, Tryd.ntmps64
  go_wp2
  go_loopw [5, 10] (fun rv kv wr => ∃ (k : Nat) (R : Int), k ≤ m ∧ kv = .int .i64 k ∧ rv = .int .u32 R ∧ Hid (R = latest ((LL qs).take k) gen) ∧ Hid (Below w.heap.size w wr)) (fun _ kv _ => m - (intOf kv).toNat)
  case atStart => exact ⟨0, 0, Nat.zero_le _, rfl, rfl, rfl, Below.refl _ _⟩
  case round =>
    obtain ⟨k, R, hk, rfl, rfl, hR, hB⟩ := hrel
    by_cases hlt : k < m
    · obtain ⟨q, hq⟩ : ∃ q, qs[k]? = some q := ⟨_, List.getElem?_eq_getElem (by rw [← HM.out]; exact hlt)⟩
      obtain ⟨bb, off, rfl, hcell⟩ := (H.out.below hB.out).at hq
      have hqr : Rd wr q.1 q.2 := (H.out.below hB.out).rd q (List.mem_of_getElem? hq)
      have HJ : Hid (latest ((LL qs).take (k + 1)) gen = lateS gen R q.2) := by
        show _ = _
        rw [hR.out, ← latest_snoc]
        congr 1
        have := LL_at hq
        obtain ⟨h1, h2⟩ := List.getElem?_eq_some_iff.1 this
        rw [List.take_succ_eq_append_getElem h1, h2]
      obtain ⟨qv, s⟩ := q
      simp only at hcell hqr HJ
      have HR56 : Hid (Calls Tryd.prog 71 #[qv] wr fun r w' => r = .returned (.bool (decide (s.length = 64))) ∧ w' = wr) := readable56 hqr
      by_cases h64 : s.length = 64
      · obtain ⟨sb, so, sc, hqv, hs1, hs2, hs3, hs4⟩ := hqr.spot (by omega)
        subst hqv
        have c0 := hs4 0 (by omega)
        rw [Nat.add_zero] at c0
        rw [decide_eq_true h64] at HR56
        have hr1 := rd_sub (i := 1) (n := 63) hqr (by omega)
        have hr5 : ∀ w', Below wr.heap.size wr w' → Rd w' (.slice (some ⟨sb, so + 5, none⟩) 59 (sc - 5)) (s.drop 5) := fun w' hb => by
          have := (rd_sub (i := 5) (n := 59) hqr (by omega)).below hb
          rwa [List.take_of_length_le (by rw [List.length_drop]; omega)] at this
        rw [List.take_of_length_le (by rw [List.length_drop]; omega)] at hr1
        have H58 : Hid (Calls Tryd.prog 73 #[.slice (some ⟨sb, so + 1, none⟩) 63 (sc - 1)] wr fun r w' => r = .returned (.int .u32 (num4 (s.drop 1))) ∧ Below wr.heap.size wr w') := number58 hr1 (by rw [List.length_drop]; omega)
        have H58b : Hid (∀ w', Below wr.heap.size wr w' → Calls Tryd.prog 73 #[.slice (some ⟨sb, so + 5, none⟩) 59 (sc - 5)] w' fun r w'' => r = .returned (.int .u32 (num4 (s.drop 5))) ∧ Below w'.heap.size w' w'') := fun w' hb => number58 (hr5 w' hb) (by rw [List.length_drop]; omega)
        rw [h64] at hs1 HR56 hcell
        have HP : Hid (isPart s gen = (decide (s.getD 0 0 = 197) && decide (num4 (s.drop 1) = gen))) := by
          show _ = _
          unfold isPart
          rw [decide_eq_true h64, Bool.true_and]
        unfold lateS at HJ
        rw [HP.out] at HJ
        generalize s.getD 0 0 = x0 at *
        generalize num4 (s.drop 1) = g1 at *
        generalize num4 (s.drop 5) = g5 at *
        clear hs4 hqr hr1 hr5 h64 hs3 HP
        by_cases hx0 : x0 = 197
        · have hx0' : (x0 == 197) = true := by simpa using hx0
          by_cases hg1 : g1 = gen
          · have hg1' : (g1 == gen) = true := by simpa using hg1
            rw [decide_eq_true hx0, decide_eq_true hg1] at HJ
            have HJ2 : Hid (latest ((LL qs).take (k + 1)) gen = (if R < g5 then g5 else R)) := by
              show _ = _
              rw [HJ.out, if_pos (by rfl)]
              split <;> omega
            clear HJ hx0 hg1
            go_wp2_with (go_at_call 71; go_must (refine HR56.out.mono ?_; rintro r w2 ⟨rfl, hw2⟩; replace hw2 := hw2.symm; subst hw2))
            refine H58.out.mono ?_
            rintro r w3 ⟨rfl, hb3⟩
            have H5 := H58b.out w3 hb3
            have HB3 : Hid (Below w.heap.size w w3) := bnext hB.out hb3
            clear hb3
            go_wp2_with fail
            refine H5.mono ?_
            rintro r w4 ⟨rfl, hb4⟩
            have HB4 : Hid (Below w.heap.size w w4) := bnext HB3.out hb4
            clear hb4 H5
            go_wp2
            go_roundw
            case rel => exact ⟨k + 1, _, by omega, by go_num, rfl, HJ2.out.symm, HB4⟩
            case measure => simp [intOf]; omega
          · have hg1' : (g1 == gen) = false := by simpa using hg1
            rw [decide_eq_true hx0, decide_eq_false hg1] at HJ
            have HJ2 : Hid (R = latest ((LL qs).take (k + 1)) gen) := HJ.out.symm
            clear HJ hx0 hg1
            go_wp2_with (go_at_call 71; go_must (refine HR56.out.mono ?_; rintro r w2 ⟨rfl, hw2⟩; replace hw2 := hw2.symm; subst hw2))
            refine H58.out.mono ?_
            rintro r w3 ⟨rfl, hb3⟩
            have HB3 : Hid (Below w.heap.size w w3) := bnext hB.out hb3
            clear hb3
            go_wp2
            go_roundw
            case rel => exact ⟨k + 1, _, by omega, by go_num, rfl, HJ2, HB3⟩
            case measure => simp [intOf]; omega
        · have hx0' : (x0 == 197) = false := by simpa using hx0
          rw [decide_eq_false hx0] at HJ
          have HJ2 : Hid (R = latest ((LL qs).take (k + 1)) gen) := HJ.out.symm
          clear HJ hx0
          go_wp2_with (go_at_call 71; go_must (refine HR56.out.mono ?_; rintro r w2 ⟨rfl, hw2⟩; replace hw2 := hw2.symm; subst hw2))
          go_roundw
          case rel => exact ⟨k + 1, _, by omega, by go_num, rfl, HJ2, hB⟩
          case measure => simp [intOf]; omega
      · have HP : Hid (isPart s gen = false) := by
          show _ = _
          unfold isPart
          rw [decide_eq_false h64, Bool.false_and, Bool.false_and]
        unfold lateS at HJ
        rw [HP.out] at HJ
        have HJ2 : Hid (R = latest ((LL qs).take (k + 1)) gen) := HJ.out.symm
        rw [decide_eq_false h64] at HR56
        obtain ⟨sa, sc, hqv⟩ := hqr.len
        subst hqv
        clear hqr h64 HJ
        go_wp2_with (go_at_call 71; go_must (refine HR56.out.mono ?_; rintro r w2 ⟨rfl, hw2⟩; replace hw2 := hw2.symm; subst hw2))
        go_roundw
        case rel => exact ⟨k + 1, _, by omega, by go_num, rfl, HJ2, hB⟩
        case measure => simp [intOf]; omega
    · obtain rfl : k = m := by omega
      have HE : Hid (latest ((LL qs).take k) gen = latest (LL qs) gen) := by
        show _ = _
        rw [List.take_of_length_le (by rw [LL_len, HM.out]; exact Nat.le_refl _)]
      rw [HE.out] at hR
      go_wp2
      go_ret
      exact ⟨by rw [← hR.out]; rfl, hB.out⟩
end Go.Proofs.YtkcighejmjgalaaDoor
