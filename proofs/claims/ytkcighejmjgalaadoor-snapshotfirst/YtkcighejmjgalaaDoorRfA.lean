/-
  The law's own reading of a disk (sectors), same; the reference's Head.
-/
import Derived.Test.YtkcighejmjgalaaDoorOpn8
import Derived.Test.YtkcighejmjgalaaDoorRef4
import Derived.Test.YtkcighejmjgalaaDoorRef1
namespace Go.Proofs.YtkcighejmjgalaaDoor
set_option linter.unusedVariables false
set_option linter.unusedSimpArgs false
set_option synthInstance.maxSize 20000
set_option maxHeartbeats 2000000
set_option maxRecDepth 20000
open Go.RowKit Go.Maps

structure Grw (w wr : World) (v : Value) (rs : List VB) (L : List (List Int)) (i : Nat) : Prop where
  rcs : RecAt w.heap.size wr v rs
  len : rs.length = i
  bel : Below w.heap.size w wr
  ll : LL rs = L.take i
theorem grw_zero (w : World) (L : List (List Int)) : Grw w w nilv [] L 0 := ⟨recAt_nil _ _, rfl, Below.refl _ _, rfl⟩
theorem Grw.step {w wr w1 w3 : World} {v v' ev : Value} {s : List Int} {rs : List VB} {L : List (List Int)} {i : Nat} (h : Grw w wr v rs L i) (hs : L[i]? = some s) (hb : Below wr.heap.size wr w1) (he : OutR wr.heap.size w1 ev s)
    (k1 : w3.ownsRow 0 30 1 v' (rs ++ [(ev, s)]).length (flat lc (rs ++ [(ev, s)]))) (k2 : (w1.alloc (.cells #[ev] 30)).grownBy w3 v.ownBlock) (k3 : ∀ j, v'.ownBlock = some j → v.ownBlock = some j ∨ (w1.alloc (.cells #[ev] 30)).heap.size ≤ j) :
    Grw w w3 v' (rs ++ [(ev, s)]) L (i + 1) := by
  have hsz := hb.size
  have hb0 := h.bel.size
  obtain ⟨r1, r2⟩ := (h.rcs.below hb).add (by omega) he.1 (fun _ j hj e => by
    have h1 := he.2 j hj
    have h2 := (h.rcs.own.lt j e).2
    omega) k1 k2 k3
  refine ⟨r1, by simp [h.len], (h.rcs.below hb).grown (bnext h.bel hb) (Nat.le_refl _) r2, ?_⟩
  obtain ⟨h1, h2⟩ := List.getElem?_eq_some_iff.1 hs
  rw [List.take_succ_eq_append_getElem h1, ← h.ll, h2]
  simp [LL]
theorem sectors13 {w : World} {o : Nat → Nat} {j b : Nat} {D : Dk} (h : DIs w o j b D) (hd : D.down = false) (hl : D.now.length ≤ 400) : Calls Tryd.prog 13 #[ptr b] w fun r w' => ∃ v, r = .returned v ∧ (∃ qs, RL w' v qs ∧ LL qs = cont D 0 D.now.length) ∧ Below w.heap.size w w' := by
  obtain ⟨gv, nv, pv, h⟩ := h
  have HRead : Hid (∀ wr (k : Nat), k < D.now.length → Below w.heap.size w wr → Calls Tryd.prog 32 #[ptr b, .int .i64 (k : Int)] wr fun r w' => (∃ v kd, r = .returned (.tuple #[v, .int .i64 kd]) ∧ (∃ a n c, v = .slice a n c) ∧ ((kd = 5 ∧ secB (D.now.getD k zs) = []) ∨ (kd = 0 ∧ OutR wr.heap.size w' v (secB (D.now.getD k zs)) ∧ (secB (D.now.getD k zs)).length = 64))) ∧ Below wr.heap.size wr w') := fun wr k hk hb => read_two (h.below hb) hd hk
  have H31 : Hid (∀ wr, Below w.heap.size w wr → Calls Tryd.prog 31 #[ptr b] wr fun r w' => r = .returned (.int .i64 (D.now.length : Int)) ∧ w' = wr) := fun wr hb => sectors_any (h.below hb)
  have HAt : Hid (∀ k, k < D.now.length → (cont D 0 D.now.length)[k]? = some (secB (D.now.getD k zs))) := fun k hk => by
    have := cont_at (D := D) (base := 0) (size := D.now.length) (by omega) hk
    rwa [Nat.zero_add] at this
  have hLn : (cont D 0 D.now.length).length = D.now.length := cont_len (by omega)
  have HLn : Hid ((cont D 0 D.now.length).length = D.now.length) := hLn
  generalize cont D 0 D.now.length = L at *
  obtain ⟨size, hsz⟩ : ∃ size, size = D.now.length := ⟨_, rfl⟩
  rw [← hsz] at HRead H31 HAt HLn hl
  clear h hLn hd hsz
  go_enter Tryd.func13, Tryd.ntmps13
  go_wp2
  go_loopw [3, 4] (fun sv kv wr => ∃ (k : Nat) (rs : List VB) (ra : Option Addr) (rc : Nat), k ≤ size ∧ kv = .int .i64 k ∧ sv = .slice ra k rc ∧ Hid (Grw w wr (.slice ra k rc) rs L k)) (fun _ kv _ => size - (intOf kv).toNat)
  case atStart => exact ⟨0, [], none, 0, Nat.zero_le _, rfl, rfl, grw_zero w L⟩
  case round =>
    obtain ⟨k, rs, ra, rc, hk, rfl, rfl, hK⟩ := hrel
    have hrc := slice_of_own hK.out.rcs.own
    obtain ⟨ra', rc', hra, hrc1, hrc2⟩ := hrc
    obtain ⟨rfl, hx9, rfl⟩ : ra = ra' ∧ k = rs.length ∧ rc = rc' := by simpa using hra
    rw [hK.out.len] at hrc1
    clear hra hx9
    have HS := H31.out wr hK.out.bel
    by_cases hlt : k < size
    · have HR := HRead.out wr k hlt hK.out.bel
      have hat := HAt.out k hlt
      generalize secB (D.now.getD k zs) = sec at *
      have HStep : Hid (∀ w1 w3 v' ev, Below wr.heap.size wr w1 → OutR wr.heap.size w1 ev sec → w3.ownsRow 0 30 1 v' (rs ++ [(ev, sec)]).length (flat lc (rs ++ [(ev, sec)])) → (w1.alloc (.cells #[ev] 30)).grownBy w3 (Value.slice ra k rc).ownBlock → (∀ j, v'.ownBlock = some j → (Value.slice ra k rc).ownBlock = some j ∨ (w1.alloc (.cells #[ev] 30)).heap.size ≤ j) → Grw w w3 v' (rs ++ [(ev, sec)]) L (k + 1)) := fun w1 w3 v' ev hb he k1 k2 k3 => hK.out.step hat hb he k1 k2 k3
      have HRow : Hid (∀ w1 ev, Below wr.heap.size wr w1 → (w1.alloc (.cells #[ev] 30)).ownsRow 0 30 1 (.slice ra k rc) rs.length (flat lc rs)) := fun w1 ev hb => ((hK.out.rcs.below hb).own).alloc _
      have HRL : Hid (rs.length = k) := hK.out.len
      clear hat
      go_wp2_with fail
      refine HS.mono ?_
      rintro r w0 ⟨rfl, hw0⟩
      replace hw0 := hw0.symm
      subst hw0
      go_wp2_with fail
      refine HR.mono ?_
      rintro r w2 ⟨⟨v2, kd, rfl, ⟨a2, n2, c2, hv2⟩, hcs⟩, hb2⟩
      subst hv2
      have HB2 : Hid (Below wr.heap.size wr w2) := hb2
      clear hb2 HR HS
      rcases hcs with ⟨hkd, hse⟩ | ⟨hkd, hou, hl64⟩
      · subst hkd
        have HOu : Hid (OutR wr.heap.size w2 (.slice none 0 0) sec) := by rw [hse]; exact outR_nil _ _
        clear hse
        go_wp2_with (at_builtin; go_must (refine wpList_append_rows ty25 lc_len (by omega) rfl (.tmp 21) (.tmp 23) rfl _ rs rfl (HRow.out w2 (.slice none 0 0) HB2.out) _ [(.slice none 0 0, sec)] rfl (rowF_one (f := lc) w2 (.slice none 0 0, sec) 30) (flat_lc_one _ (fun q hq => by simp at hq; subst hq; rfl)) (by have := HRL.out; simp; omega) ?_; intro v3 w3 k1 k2 k3; have HF3 : Hid (Grw w w3 v3 (rs ++ [(.slice none 0 0, sec)]) L (k + 1)) := HStep.out w2 w3 v3 _ HB2.out HOu.out k1 k2 k3; obtain ⟨a3, c3, hv3, hc31, hc32⟩ := slice_of_own k1; rw [lenR HRL.out] at hv3; subst hv3; clear k1 k2 k3))
        go_roundw
        case rel => exact ⟨k + 1, _, a3, c3, by omega, by go_num, rfl, HF3⟩
        case measure => simp [intOf]; omega
      · subst hkd
        have HOu : Hid (OutR wr.heap.size w2 (.slice a2 n2 c2) sec) := hou
        clear hou hl64
        go_wp2_with (at_builtin; go_must (refine wpList_append_rows ty25 lc_len (by omega) rfl (.tmp 21) (.tmp 23) rfl _ rs rfl (HRow.out w2 (.slice a2 n2 c2) HB2.out) _ [(.slice a2 n2 c2, sec)] rfl (rowF_one (f := lc) w2 (.slice a2 n2 c2, sec) 30) (flat_lc_one _ (fun q hq => by simp at hq; subst hq; rfl)) (by have := HRL.out; simp; omega) ?_; intro v3 w3 k1 k2 k3; have HF3 : Hid (Grw w w3 v3 (rs ++ [(.slice a2 n2 c2, sec)]) L (k + 1)) := HStep.out w2 w3 v3 _ HB2.out HOu.out k1 k2 k3; obtain ⟨a3, c3, hv3, hc31, hc32⟩ := slice_of_own k1; rw [lenR HRL.out] at hv3; subst hv3; clear k1 k2 k3))
        go_roundw
        case rel => exact ⟨k + 1, _, a3, c3, by omega, by go_num, rfl, HF3⟩
        case measure => simp [intOf]; omega
    · obtain rfl : k = size := by omega
      have HD : Hid (∃ qs, RL wr (.slice ra k rc) qs ∧ LL qs = L) := ⟨rs, hK.out.rcs.rl, by rw [hK.out.ll, List.take_of_length_le (by rw [HLn.out]; omega)]⟩
      have HB : Hid (Below w.heap.size w wr) := hK.out.bel
      clear hK
      go_wp2_with fail
      refine HS.mono ?_
      rintro r w0 ⟨rfl, hw0⟩
      replace hw0 := hw0.symm
      subst hw0
      go_wp2
      go_ret
      exact ⟨_, rfl, HD.out, HB.out⟩
/-! ### same -/
theorem same18 {w : World} {v1 v2 x1 x2 : Value} {a b : List Int} {ps qs : List VB} (h1 : Rd w v1 a) (h2 : Rd w v2 b) (hp : RL w x1 ps) (hq : RL w x2 qs) (hl : ps.length ≤ 1000) : Calls Tryd.prog 18 #[v1, x1, v2, x2] w fun r w' => r = .returned (.bool (decide (a = b ∧ LL ps = LL qs))) ∧ Below w.heap.size w w' := by
  have H21 : Hid (Calls Tryd.prog 21 #[v1, v2] w fun r w' => r = .returned (.bool (decide (a = b))) ∧ Below w.heap.size w w') := same_any v1 v2 a b w h1 h2
  have H37 : Hid (∀ w', Below w.heap.size w w' → Calls Tryd.prog 37 #[x1, x2] w' fun r w'' => r = .returned (.bool (decide (LL ps = LL qs))) ∧ Below w.heap.size w w'') := fun w' hb => (lists12 (hp.below hb) (hq.below hb) hl).mono fun r w'' h => ⟨h.1, bnext hb h.2⟩
  obtain ⟨y1, z1, rfl⟩ := h1.len
  obtain ⟨y2, z2, rfl⟩ := h2.len
  obtain ⟨y3, z3, rfl⟩ := hp.len
  obtain ⟨y4, z4, rfl⟩ := hq.len
  by_cases hab : a = b
  · have e : decide (a = b ∧ LL ps = LL qs) = decide (LL ps = LL qs) := by simp [hab]
    rw [e]
    rw [decide_eq_true hab] at H21
    generalize decide (LL ps = LL qs) = B at *
    generalize ps.length = n3 at *
    generalize qs.length = n4 at *
    clear h1 h2 hp hq e hab
    go_enter Tryd.func18, Tryd.ntmps18
    go_wp2_with fail
    refine H21.out.mono ?_
    rintro r w1 ⟨rfl, hb1⟩
    have HC := H37.out w1 hb1
    clear hb1
    go_wp2_with fail
    refine HC.mono ?_
    rintro r w2 ⟨rfl, hb2⟩
    have HB2 : Hid (Below w.heap.size w w2) := hb2
    clear hb2 HC
    go_wp2
    go_ret
    exact ⟨rfl, HB2.out⟩
  · have e : decide (a = b ∧ LL ps = LL qs) = false := by simp [hab]
    rw [e]
    rw [decide_eq_false hab] at H21
    clear h1 h2 hp hq e hab
    go_enter Tryd.func18, Tryd.ntmps18
    go_wp2_with fail
    refine H21.out.mono ?_
    rintro r w1 ⟨rfl, hb1⟩
    have HB1 : Hid (Below w.heap.size w w1) := hb1
    clear hb1
    go_wp2
    go_ret
    exact ⟨rfl, HB1.out⟩
theorem be4_num4 {x0 x1 x2 x3 : Int} (h0 : 0 ≤ x0 ∧ x0 < 256) (h1 : 0 ≤ x1 ∧ x1 < 256) (h2 : 0 ≤ x2 ∧ x2 < 256) (h3 : 0 ≤ x3 ∧ x3 < 256) : be4 (x0 * 16777216 + x1 * 65536 + x2 * 256 + x3) = [x0, x1, x2, x3] := by
  unfold be4
  simp only [List.cons.injEq, and_true]
  omega
theorem num4_drop1 (s : List Int) : num4 (s.drop 1) = s.getD 1 0 * 16777216 + s.getD 2 0 * 65536 + s.getD 3 0 * 256 + s.getD 4 0 := by
  unfold num4
  simp only [List.getD_eq_getElem?_getD, List.getElem?_drop]
theorem headL_zero (n : Int) {j : Nat} (h : 5 ≤ j) : (headL n).getD j 0 = 0 := by
  unfold headL
  obtain ⟨k, rfl⟩ : ∃ k, j = k + 5 := ⟨j - 5, by omega⟩
  show (List.replicate 59 (0 : Int)).getD k 0 = 0
  rw [List.getD_eq_getElem?_getD, List.getElem?_replicate]
  split <;> rfl
theorem head_form {s : List Int} (hl : s.length = 64) (ho : Oct s) (h0 : s.getD 0 0 = 94) (hz : ∀ j, 5 ≤ j → j < 64 → s.getD j 0 = 0) : s = headL (num4 (s.drop 1)) := by
  rw [num4_drop1]
  unfold headL
  rw [be4_num4 (ho.at 1) (ho.at 2) (ho.at 3) (ho.at 4)]
  apply List.ext_getElem?
  intro j
  have hs : ∀ j, j < 64 → s[j]? = some (s.getD j 0) := fun j hj => by
    rw [List.getD_eq_getElem?_getD, List.getElem?_eq_getElem (by omega)]
    rfl
  by_cases hj : j < 64
  · rw [hs j hj]
    match j, hj with
    | 0, _ => rw [h0]; rfl
    | 1, _ => rfl
    | 2, _ => rfl
    | 3, _ => rfl
    | 4, _ => rfl
    | j + 5, hj =>
      rw [hz _ (by omega) hj]
      show _ = (List.replicate 59 (0 : Int))[j]?
      rw [List.getElem?_replicate, if_pos (by omega)]
  · rw [List.getElem?_eq_none (by omega), List.getElem?_eq_none (by simp; omega)]
theorem headN_no {s : List Int} {i : Nat} (h : s.length ≠ 64) : headN s i = 0 := by unfold headN; rw [if_neg (fun x => h x.1)]
theorem headN_no0 {s : List Int} {i : Nat} (h : s.getD 0 0 ≠ 94) : headN s i = 0 := by
  unfold headN
  rw [if_neg (fun x => h (by rw [x.2.2]; rfl))]
theorem headN_noz {s : List Int} {i j : Nat} (h5 : 5 ≤ j) (h : s.getD j 0 ≠ 0) : headN s i = 0 := by
  unfold headN
  rw [if_neg (fun x => h (by rw [x.2.2]; exact headL_zero _ h5))]
theorem headN_yes {s : List Int} {i : Nat} (hl : s.length = 64) (hf : s = headL (num4 (s.drop 1))) : headN s i = if placeN (num4 (s.drop 1)) = i then num4 (s.drop 1) else 0 := by
  unfold headN
  by_cases hp : placeN (num4 (s.drop 1)) = i
  · rw [if_pos ⟨hl, hp, hf⟩, if_pos hp]
  · rw [if_neg (fun x => hp x.2.1), if_neg hp]
structure Four1 (b off : Nat) (x0 x1 x2 x3 : Int) (w : World) : Prop where
  c0 : w.cell? ⟨b, off + 1, none⟩ = some (.int .u8 x0)
  c1 : w.cell? ⟨b, off + 2, none⟩ = some (.int .u8 x1)
  c2 : w.cell? ⟨b, off + 3, none⟩ = some (.int .u8 x2)
  c3 : w.cell? ⟨b, off + 4, none⟩ = some (.int .u8 x3)
theorem head29 {w : World} {v : Value} {s : List Int} (h : Rd w v s) {i : Nat} (hi : i ≤ 1) : Calls Tryd.prog 29 #[v, .int .i64 (i : Int)] w fun r w' => r = .returned (.int .u32 (headN s i)) ∧ Below w.heap.size w w' := by
  by_cases hl : s.length = 64
  · obtain ⟨b, off, cap, rfl, hc1, hc2, hbw, hc⟩ := h.spot (by omega)
    have hoct := h.oct
    have o0 := hoct.at 0
    have c0 : w.cell? ⟨b, off, none⟩ = some (.int .u8 (s.getD 0 0)) := hc 0 (by omega)
    have HCl : Hid (∀ j, j < 64 → w.cell? ⟨b, off + j, none⟩ = some (.int .u8 (s.getD j 0))) := fun j hj => hc j (by omega)
    rw [hl] at hc1 ⊢
    by_cases h0 : s.getD 0 0 = 94
    · have HZ : Hid (∀ j, 5 ≤ j → s.getD j 0 ≠ 0 → headN s i = 0) := fun j h5 hz => headN_noz h5 hz
      have HY : Hid ((∀ j, 5 ≤ j → j < 64 → s.getD j 0 = 0) → headN s i = if placeN (num4 (s.drop 1)) = i then num4 (s.drop 1) else 0) := fun hz => headN_yes hl (head_form hl hoct h0 hz)
      have o1 := hoct.at 1
      have o2 := hoct.at 2
      have o3 := hoct.at 3
      have o4 := hoct.at 4
      have HF : Hid (Four1 b off (s.getD 1 0) (s.getD 2 0) (s.getD 3 0) (s.getD 4 0) w) := ⟨HCl.out 1 (by omega), HCl.out 2 (by omega), HCl.out 3 (by omega), HCl.out 4 (by omega)⟩
      rw [num4_drop1] at HY
      have HO : Hid (Oct s) := hoct
      rw [h0] at c0
      generalize s.getD 1 0 = x0 at *
      generalize s.getD 2 0 = x1 at *
      generalize s.getD 3 0 = x2 at *
      generalize s.getD 4 0 = x3 at *
      generalize headN s i = K at *
      clear h hc hoct hl o0 h0
      go_enter Tryd.func29, Tryd.ntmps29
      go_wp2
      go_loopw [5] (fun kv wr => ∃ k : Nat, 5 ≤ k ∧ k ≤ 64 ∧ kv = .int .i64 k ∧ Hid (wr = w ∧ ∀ j, 5 ≤ j → j < k → s.getD j 0 = 0)) (fun kv _ => 64 - (intOf kv).toNat)
      case atStart => exact ⟨5, by omega, by omega, rfl, rfl, fun j h1 h2 => by omega⟩
      case round =>
        obtain ⟨k, hk5, hk, rfl, hH⟩ := hrel
        have hwr := hH.out.1
        subst hwr
        by_cases hlt : k < 64
        · have ck := HCl.out k hlt
          have hck := HO.out.at k
          by_cases hz : s.getD k 0 = 0
          · have HN : Hid (True ∧ ∀ j, 5 ≤ j → j < k + 1 → s.getD j 0 = 0) := ⟨trivial, fun j h1 h2 => by
              by_cases e : j = k
              · rw [e]; exact hz
              · exact hH.out.2 j h1 (by omega)⟩
            rw [hz] at ck
            clear hz hck hH
            go_wp2
            go_roundw
            case rel => exact ⟨k + 1, by omega, by omega, by go_num, HN⟩
            case measure => simp [intOf]; omega
          · have hK := HZ.out k hk5 hz
            have hz' : (s.getD k 0 != 0) = true := by simpa using hz
            generalize s.getD k 0 = y at *
            clear hz hH HY HZ
            go_wp2
            go_ret
            exact ⟨by rw [hK]; rfl, Below.refl _ _⟩
        · obtain rfl : k = 64 := by omega
          have hK := HY.out hH.out.2
          have HK : Hid (K = if placeN (x0 * 16777216 + x1 * 65536 + x2 * 256 + x3) = i then x0 * 16777216 + x1 * 65536 + x2 * 256 + x3 else 0) := hK
          clear hK hH HY HZ hlt
          go_upto_region 8 with fail
          have HFd : Hid (Four1 b off x0 x1 x2 x3 wr.drew) := ⟨HF.out.c0, HF.out.c1, HF.out.c2, HF.out.c3⟩
          have HB : Hid (Below wr.heap.size wr wr.drew) := (Below.refl _ _).drew
          have e0 : ∀ z : WIn (Four1 b off x0 x1 x2 x3), z.w.cell? ⟨b, off + 1, none⟩ = some (.int .u8 x0) := fun z => z.ok.c0
          have e1 : ∀ z : WIn (Four1 b off x0 x1 x2 x3), z.w.cell? ⟨b, off + 2, none⟩ = some (.int .u8 x1) := fun z => z.ok.c1
          have e2 : ∀ z : WIn (Four1 b off x0 x1 x2 x3), z.w.cell? ⟨b, off + 3, none⟩ = some (.int .u8 x2) := fun z => z.ok.c2
          have e3 : ∀ z : WIn (Four1 b off x0 x1 x2 x3), z.w.cell? ⟨b, off + 4, none⟩ = some (.int .u8 x3) := fun z => z.ok.c3
          have ne : Nonempty (WIn (Four1 b off x0 x1 x2 x3)) := ⟨⟨_, HFd.out⟩⟩
          refine wp_region_tree (C := fun w' => ∃ z : WIn (Four1 b off x0 x1 x2 x3), w' = z.w) (.still 0 (.still 1 (.still 2 (.still 3 (.still 4 (.still 5 (.still 6 (.still 7 (.still 8 (.still 9 (.still 10 (.still 11 (.still 12 (.still 13 (.still 14 (.still 15 (.still 16 (.still 17 (.still 18 (.still 19 (.still 20 (.still 21 (.still 22 .done))))))))))))))))))))))) (by kernel_rfl) (by kernel_rfl) ⟨⟨_, HFd.out⟩, rfl⟩ ?_
          generalize wr.drew = wd at *
          iterate 23 (refine tree_still rfl rfl ?_; go_big_quiet_step (fail); refine wpQuiet_nil ?_)
          refine tree_done ?_
          have hM0 : 0 ≤ x0 * 16777216 + x1 * 65536 + x2 * 256 + x3 := by omega
          have hM1 : x0 * 16777216 + x1 * 65536 + x2 * 256 + x3 < 4294967296 := by omega
          clear e0 e1 e2 e3 ne c0 o1 o2 o3 o4
          generalize x0 * 16777216 + x1 * 65536 + x2 * 256 + x3 = M at *
          by_cases hm : M = 0
          · have hKz : K = 0 := by
              rw [HK.out, hm]
              split <;> rfl
            subst hm
            clear HK
            go_wp2
            go_ret
            exact ⟨by rw [hKz]; rfl, HB.out⟩
          · have hm' : (M == 0) = false := by simpa using hm
            by_cases hp : placeN M = i
            · have hKz : K = M := by rw [HK.out, if_pos hp]
              have hq : (M % 2 != 1 - (i : Int)) = false := by
                unfold placeN at hp
                split at hp <;> simp <;> omega
              clear HK hm
              go_wp2
              go_ret
              exact ⟨by rw [hKz]; rfl, HB.out⟩
            · have hKz : K = 0 := by rw [HK.out, if_neg hp]
              have hq : (M % 2 != 1 - (i : Int)) = true := by
                unfold placeN at hp
                split at hp <;> simp <;> omega
              clear HK hm
              go_wp2
              go_ret
              exact ⟨by rw [hKz]; rfl, HB.out⟩
    · have hK := headN_no0 (i := i) h0
      have h0' : (s.getD 0 0 != 94) = true := by simpa using h0
      generalize s.getD 0 0 = x at *
      generalize headN s i = K at *
      clear h hc hoct h0 HCl hl
      go_enter Tryd.func29, Tryd.ntmps29
      go_wp2
      go_ret
      exact ⟨by rw [hK]; rfl, Below.refl _ _⟩
  · have hK := headN_no (i := i) hl
    obtain ⟨a, cap, rfl⟩ := h.len
    have hl' : ((s.length : Int) != 64) = true := by simp; omega
    generalize headN s i = K at *
    generalize s.length = n at *
    clear h hl
    go_enter Tryd.func29, Tryd.ntmps29
    go_wp2
    go_ret
    exact ⟨by rw [hK]; rfl, Below.refl _ _⟩
end Go.Proofs.YtkcighejmjgalaaDoor
