/-
  The walk of StampBack: a right stamp's form is read as it, and what is sorted has each stamp once, in order.
-/
import Derived.Test.YtmifionpagpnfaaStrict
import Derived.Test.YtmifionpagpnfaaForms
namespace Go.Proofs.Ytmifionpagpnfaa
set_option linter.unusedVariables false
open Go.RowKit

theorem rNum_form (n : Nat) (r : List Int) (k : Int) (h : n < 18446744073709551616) : rNum (form n ++ r) k = (n, r, k) := by
  unfold rNum
  rw [parse_form n 0 r (by omega) (by omega) (.inl rfl)]

theorem got_put (s : S) (r : List Int) (hs : rightP s) : gotS (putS s ++ r) 0 = (s, r, 0) := by
  obtain ⟨s1, s2⟩ := s
  obtain ⟨h1, h2, h3, h4⟩ := hs
  simp only at h1 h2 h3 h4
  unfold gotS putS
  rw [List.append_assoc, rNum_form _ _ _ (zig_lt s1 ⟨by omega, by omega⟩)]
  simp only
  unfold rCount
  rw [rNum_form _ _ _ (by omega)]
  simp only
  rw [if_neg (by omega), zag_zig]
  simp only [Prod.mk.injEq, and_true, true_and]
  omega

theorem rises_at {l : List S} (h : Rises l) (j : Nat) (hj : j + 1 < l.length) : ltP (l.getD j (0, 0)) (l.getD (j + 1) (0, 0)) := by
  have := List.pairwise_iff_getElem.1 h j (j + 1) (by omega) hj (by omega)
  simpa [List.getD_eq_getElem?_getD, List.getElem?_eq_getElem hj, List.getElem?_eq_getElem (show j < l.length by omega)] using this

theorem rises_count : ∀ (l : List S) (x : S), Rises l → x ∈ l → l.count x = 1
  | [], x, _, h => by cases h
  | y :: l, x, hr, h => by
    have h1 := List.pairwise_cons.1 hr
    by_cases e : y = x
    · subst e
      have : y ∉ l := fun hm => ltP_irrefl _ (h1.1 y hm)
      rw [List.count_cons_self, List.count_eq_zero_of_not_mem this]
    · rw [List.count_cons_of_ne e]
      rcases List.mem_cons.1 h with r | r
      · exact absurd r.symm e
      · exact rises_count l x h1.2 r

theorem count_take {l : List S} {q : Nat} {x : S} (h : q < l.length) : (l.take (q + 1)).count x = (l.take q).count x + if l.getD q (0, 0) = x then 1 else 0 := by
  rw [take_more h, List.count_append]
  congr 1
  by_cases e : l.getD q (0, 0) = x
  · rw [if_pos e, e]; simp
  · rw [if_neg e]; exact List.count_eq_zero_of_not_mem (by simpa using fun h => e h.symm)

set_option maxHeartbeats 4000000 in
set_option maxRecDepth 20000 in
theorem back_core (s : S) (vr vl : Value) (rl : List Int) (l : List S) (w : World) (hs : SOk s) (hr : Rd w vr rl) (hv : RdS w vl l) (hrl : rl.length ≤ 300) (hl : l.length ≤ 200) :
    Calls Try.prog 8 #[sv s, vr, vl] w fun e w' => e = .returned (.bool true) ∧ Below w.heap.size w w' := by
  obtain ⟨ar, cr, rfl⟩ := hr.len
  obtain ⟨av, cv, rfl⟩ := hv.len
  have HR : Hid (Rd w (.slice ar rl.length cr) rl) := hr
  have HV : Hid (RdS w (.slice av l.length cv) l) := hv
  have hcapr := hr.cap
  have hcapv := hv.cap
  have HS : Hid (SOk s) := hs
  have hrt := fun w' => right_any s w'
  have hput := fun w' => put_any (.slice none 0 0) [] s w' (rd_nil w') (by simp) hs
  have HPL : Hid ((putS s).length ≤ 20) := putS_len s hs
  have HGP : Hid (rightP s → gotS (putS s ++ rl) 0 = (s, rl, 0)) := got_put s rl
  obtain ⟨w0, hw0⟩ : ∃ w0, w0 = w.alloc (.cells #[.int .i64 s.1, .int .i64 s.2] 23) := ⟨_, rfl⟩
  have HX : Hid (Blk w0 w.heap.size 23 [.int .i64 s.1, .int .i64 s.2]) := by show Blk _ _ _ _; rw [hw0]; exact blk_new w [.int .i64 s.1, .int .i64 s.2] 23
  have HB0 : Hid (Below w.heap.size w w0) := by show Below _ _ _; rw [hw0]; exact balloc (Below.refl _ _) _
  clear hr hv hs
  obtain ⟨s1, s2⟩ := s
  simp only [sv] at hrt hput ⊢
  dsimp only at HX hw0
  go_enter Try.func8, Try.ntmps8
  go_upto_region 1 with fail
  rw [← hw0]
  obtain ⟨nb, hnb⟩ : ∃ nb, nb = w.heap.size := ⟨_, rfl⟩
  rw [← hnb] at HX ⊢
  have HNB : Hid (nb = w.heap.size) := hnb
  clear hw0 hnb
  have x0 := HX.out.cell 0 _ rfl
  have x1 := HX.out.cell 1 _ rfl
  by_cases hR : rightP (s1, s2)
  case' pos =>
    rw [decide_eq_true hR] at hrt
    have hgp := HGP.out hR
    go_upto_region 5 with (first
      | (go_at_call 10; refine (hrt _).mono ?_; rintro e w1 ⟨rfl, hb1⟩
         have y0 := (HX.out.below hb1).cell 0 _ rfl
         have y1 := (HX.out.below hb1).cell 1 _ rfl
         have HB1 : Hid (Below w0.heap.size w0 w1) := hb1
         clear hb1)
      | (go_at_call 25; refine (hput _).mono ?_; rintro e w2 ⟨v2, rfl, hown2, hb2⟩
         have HB2 : Hid (Below w0.heap.size w0 w2) := bnext HB1.out hb2
         have HO2 : Hid (Own w1.heap.size 5 w2 v2 (putS (s1, s2))) := hown2
         have HB12 : Hid (Below w1.heap.size w1 w2) := hb2
         clear hown2 hb2)
      | (at_builtin; go_must (refine wpList_append_cells 33 5 byteTy rfl (.tmp 25) (.tmp 26) rfl w1.heap.size v2 (putS (s1, s2)) rfl HO2.out _ rl rfl (HR.out.below (bnext HB0.out HB2.out)) (by have := HPL.out; omega) HB12.out.size ?_; intro v3 w3 hown3 hg3))
      | (go_at_call 21; refine (read_any _ _ _ hown3.rd (by rw [List.length_append]; have := HPL.out; omega)).mono ?_; rintro e w4 ⟨b, rfl, hb4, hr4, hg4⟩))
    have HB3 : Hid (Below w0.heap.size w0 w3) := HB2.out.grown hg3 HB2.out.size (fun k hk => Nat.le_trans HB1.out.size (HO2.out.2.lt k hk).1)
    have HB4 : Hid (Below w0.heap.size w0 w4) := bnext HB3.out (grown_below hg4)
    have X4 := HX.out.below HB4.out
    have HBL : Hid (nb < b ∧ w.heap.size ≤ b) := by
      have h1 := HX.out.lt
      have h2 := HB3.out.size
      have h3 := HNB.out
      exact ⟨by omega, by omega⟩
    have HR4 : Hid (Rdr w4.drew b (putS (s1, s2) ++ rl) 0) := hr4.kept (grown_drew (grown_refl w4 none))
    clear hown3 hg3 hb4 hr4 hg4 y0 y1 x0 x1
    have q0 := fun z : WIn (fun w' => Blk w' nb 23 [.int .i64 s1, .int .i64 s2]) => z.ok.cell 0 _ rfl
    have q1 := fun z : WIn (fun w' => Blk w' nb 23 [.int .i64 s1, .int .i64 s2]) => z.ok.cell 1 _ rfl
    have ne : Nonempty (WIn (fun w' => Blk w' nb 23 [.int .i64 s1, .int .i64 s2])) := ⟨⟨w4, X4⟩⟩
    refine wp_region_ord (C := fun w' => ∃ z : WIn (fun w' => Blk w' nb 23 [.int .i64 s1, .int .i64 s2]), w' = z.w) [(false, 0), (false, 2), (true, 1), (false, 3), (false, 4), (false, 5), (false, 7), (false, 8), (true, 6), (false, 9), (false, 10)] (by kernel_rfl) (by kernel_rfl) ⟨⟨w4.drew, X4⟩, rfl⟩ ?_
    iterate 2 (refine ord_still rfl rfl ?_; go_big_quiet_step (fail); refine wpQuiet_nil ?_)
    have hG := get_any w4.drew b _ 0 HR4.out
    rw [hgp] at hG
    simp only [sv] at hG
    refine ord_mem rfl rfl ?_
    go_simp
    refine hG.mono ?_
    rintro e w5 ⟨rfl, hr5, hg5⟩
    have X5 : Blk w5 nb 23 [.int .i64 s1, .int .i64 s2] := Blk.block X4 (hg5.block nb X4.lt (fun e => by have := Option.some.inj e; have := HBL.out.1; omega))
    have HR5 : Hid (Rdr w5 b rl 0) := hr5
    have HBt : Hid (Below w.heap.size w w5) := bgrown (bnext HB0.out HB4.out).drew HBL.out.2 hg5
    clear hr5 hg5 hG
    refine ⟨⟨⟨w5, X5⟩, rfl⟩, ?_⟩
    iterate 5 (refine ord_still rfl rfl ?_; go_big_quiet_step (fail); refine wpQuiet_nil ?_)
    refine ord_mem rfl rfl ?_
    go_simp
    refine (left_any w5 b rl 0 HR5.out).mono ?_
    rintro e wt ⟨rfl, rfl⟩
    refine ⟨⟨⟨_, X5⟩, rfl⟩, ?_⟩
    iterate 2 (refine ord_still rfl rfl ?_; go_big_quiet_step (fail); refine wpQuiet_nil ?_)
    refine ord_end ?_
    clear q0 q1 ne X4 X5 HR5 HR4 HB4 HB3 HB2 HB1 HO2 HB12
    go_upto_region 7 with fail
  case' neg =>
    rw [decide_eq_false hR] at hrt
    go_upto_region 7 with (first
      | (go_at_call 10; refine (hrt _).mono ?_; rintro e wt ⟨rfl, hb1⟩))
    have HBt : Hid (Below w.heap.size w wt) := bnext HB0.out hb1
    clear hb1
  all_goals
    clear hrt hput HGP
    have hso := sort_any _ l wt (HV.out.below HBt.out) (by omega)
    go_upto_region 8 with (go_at_call 19; refine hso.mono ?_; rintro e w6 ⟨v6, rfl, hown6, hb6⟩)
    have HO6 : Hid (RdS w6 v6 (sortS l)) := hown6.rd
    have HB6 : Hid (Below w.heap.size w w6) := bnext HBt.out hb6
    have HRI : Hid (Rises (sortS l)) := sortS_rises l
    have HMS : Hid (∀ x ∈ l, x ∈ sortS l) := fun x hx => (mem_sortS l x).2 hx
    have hlen := sortS_len l
    clear hown6 hb6 hso
    generalize sortS l = o at HO6 HRI HMS hlen
    obtain ⟨ao, co, hvo⟩ := HO6.out.len
    subst hvo
    have hcapo := HO6.out.cap
    go_wp2
    go_loopw [9] (fun i wr => ∃ j : Nat, i = .int .i64 ((j : Int) + 1) ∧ j ≤ o.length ∧ Hid (Below w6.heap.size w6 wr)) (fun i _ => o.length + 1 - (intOf i).toNat)
    case atStart => exact ⟨0, rfl, by omega, Below.refl _ _⟩
    case round =>
      obtain ⟨j, rfl, hj, HBr⟩ := hrel
      by_cases hjo : j + 1 < o.length
      · obtain ⟨bo, oo, rfl, a0, a1⟩ := HO6.out.at HBr.out j (by omega)
        have hb0 : ∀ w', Below w6.heap.size w6 w' → (w'.cell? ⟨bo, oo + j * 2, none⟩ = some (.int .i64 (o.getD j (0, 0)).1) ∧ w'.cell? ⟨bo, oo + j * 2 + 1, none⟩ = some (.int .i64 (o.getD j (0, 0)).2)) ∧ (w'.cell? ⟨bo, oo + (j + 1) * 2, none⟩ = some (.int .i64 (o.getD (j + 1) (0, 0)).1) ∧ w'.cell? ⟨bo, oo + (j + 1) * 2 + 1, none⟩ = some (.int .i64 (o.getD (j + 1) (0, 0)).2)) := fun w' h => by
          obtain ⟨b1, o1, e1, h1, h2⟩ := HO6.out.at h j (by omega)
          cases e1
          obtain ⟨b2, o2, e2, h3, h4⟩ := HO6.out.at h (j + 1) hjo
          cases e2
          exact ⟨⟨h1, h2⟩, h3, h4⟩
        have hlt := rises_at HRI.out j hjo
        generalize o.getD j (0, 0) = x at hb0 hlt
        generalize o.getD (j + 1) (0, 0) = y at hb0 hlt
        have hL := fun w' => less_any x y w'
        rw [decide_eq_true hlt] at hL
        obtain ⟨x1, x2⟩ := x
        obtain ⟨y1, y2⟩ := y
        simp only [sv] at hL
        dsimp only at hb0
        have HCE : Hid _ := hb0
        clear hb0 hlt a0 a1
        go_upto_region 11 with fail
        have q0 := fun z : WIn (fun w' => Below wr.heap.size wr w') => (HCE.out z.w (bnext HBr.out z.ok)).1.1
        have q1 := fun z : WIn (fun w' => Below wr.heap.size wr w') => (HCE.out z.w (bnext HBr.out z.ok)).1.2
        have q2 := fun z : WIn (fun w' => Below wr.heap.size wr w') => (HCE.out z.w (bnext HBr.out z.ok)).2.1
        have q3 := fun z : WIn (fun w' => Below wr.heap.size wr w') => (HCE.out z.w (bnext HBr.out z.ok)).2.2
        have ne : Nonempty (WIn (fun w' => Below wr.heap.size wr w')) := ⟨⟨wr, Below.refl _ _⟩⟩
        refine wp_region_ord (C := fun w' => ∃ z : WIn (fun w' => Below wr.heap.size wr w'), w' = z.w) [(false, 0), (false, 1), (false, 2), (false, 3), (false, 4), (false, 5), (false, 6), (false, 7), (false, 8), (true, 9), (false, 10)] (by kernel_rfl) (by kernel_rfl) ⟨⟨wr.drew, (Below.refl _ _).drew⟩, rfl⟩ ?_
        iterate 9 (refine ord_still rfl rfl ?_; go_big_quiet_step (fail); refine wpQuiet_nil ?_)
        refine ord_mem rfl rfl ?_
        go_simp
        refine (hL _).mono ?_
        rintro e w7 ⟨rfl, hb7⟩
        have HB7 : Hid (Below wr.heap.size wr w7) := below_undrew hb7
        clear hb7 hL
        refine ⟨⟨⟨w7, HB7.out⟩, rfl⟩, ?_⟩
        iterate 1 (refine ord_still rfl rfl ?_; go_big_quiet_step (fail); refine wpQuiet_nil ?_)
        refine ord_end ?_
        clear q0 q1 q2 q3 ne
        go_wp2
        go_roundw
        case rel => exact ⟨j + 1, by go_num, by omega, bnext HBr.out HB7.out⟩
        case measure => simp [intOf]; omega
      · have HBo : Hid (Below w6.heap.size w6 wr) := HBr
        clear HBr
        go_wp2
        go_loopw [10] (fun i wr => ∃ j : Nat, i = .int .i64 (j : Int) ∧ j ≤ l.length ∧ Hid (Below w6.heap.size w6 wr)) (fun i _ => l.length - (intOf i).toNat)
        case atStart => exact ⟨0, rfl, by omega, HBo⟩
        case round =>
          obtain ⟨i, rfl, hi, HB2⟩ := hrel
          clear HBo
          by_cases hil : i < l.length
          · obtain ⟨bv, ov, rfl, _, _⟩ := HV.out.at (bnext HB6.out HB2.out) i hil
            have hlc : ∀ w', Below w6.heap.size w6 w' → w'.cell? ⟨bv, ov + i * 2, none⟩ = some (.int .i64 (l.getD i (0, 0)).1) ∧ w'.cell? ⟨bv, ov + i * 2 + 1, none⟩ = some (.int .i64 (l.getD i (0, 0)).2) := fun w' h => by
              obtain ⟨b1, o1, e1, h1, h2⟩ := HV.out.at (bnext HB6.out h) i hil
              cases e1
              exact ⟨h1, h2⟩
            have hc1 : o.count (l.getD i (0, 0)) = 1 := rises_count o _ HRI.out (HMS.out _ (by
              rw [List.getD_eq_getElem?_getD, List.getElem?_eq_getElem hil]
              exact List.getElem_mem hil))
            generalize l.getD i (0, 0) = x at hlc hc1
            obtain ⟨x1, x2⟩ := x
            dsimp only at hlc
            have HLC : Hid _ := hlc
            have HC1 : Hid (o.count (x1, x2) = 1) := hc1
            clear hlc hc1
            go_wp2
            go_loopw [11, 12] (fun n k wr => ∃ c q : Nat, n = .int .i64 (c : Int) ∧ k = .int .i64 (q : Int) ∧ q ≤ o.length ∧ c ≤ q ∧ Hid (c = (o.take q).count (x1, x2)) ∧ Hid (Below w6.heap.size w6 wr)) (fun _ k _ => o.length - (intOf k).toNat)
            case atStart => exact ⟨0, 0, rfl, rfl, by omega, by omega, rfl, HB2⟩
            case round =>
              obtain ⟨c, q, rfl, rfl, hq, hcq, HCT, HB3⟩ := hrel
              by_cases hqo : q < o.length
              · obtain ⟨bo, oo, rfl, a0, a1⟩ := HO6.out.at HB3.out q hqo
                have e0 := (HLC.out wr HB3.out).1
                have e1 := (HLC.out wr HB3.out).2
                have HCN : Hid ((o.take (q + 1)).count (x1, x2) = (o.take q).count (x1, x2) + if o.getD q (0, 0) = (x1, x2) then 1 else 0) := count_take hqo
                generalize o.getD q (0, 0) = y at a0 a1 HCN
                obtain ⟨y1, y2⟩ := y
                dsimp only at a0 a1
                go_upto_region 20 with fail
                rcases pair_cases (y1, y2) (x1, x2) with he | he | ⟨he, he2⟩
                · have HC2 : Hid (c + 1 = (o.take (q + 1)).count (x1, x2)) := by show _ = _; rw [HCN.out, if_pos he, ← HCT.out]
                  obtain ⟨rfl, rfl⟩ : y1 = x1 ∧ y2 = x2 := by simpa using he
                  clear HCN HCT
                  go_quiet (fail)
                  go_wp2
                  go_roundw
                  case rel => exact ⟨c + 1, q + 1, by go_num, by go_num, by omega, by omega, HC2, bnext HB3.out ⟨rfl, rfl, rfl, Nat.le_refl _, fun _ _ => rfl⟩⟩
                  case measure => simp [intOf]; omega
                all_goals
                  dsimp only at he
                  have hne : ¬ (y1, y2) = (x1, x2) := fun e => by
                    simp only [Prod.mk.injEq] at e
                    simp_all
                  have HC2 : Hid (c = (o.take (q + 1)).count (x1, x2)) := by show _ = _; rw [HCN.out, if_neg hne, Nat.add_zero]; exact HCT.out
                  clear hne HCN HCT
                  try subst he
                  go_quiet (fail)
                  go_wp2
                  go_roundw
                  case rel => exact ⟨c, q + 1, rfl, by go_num, by omega, by omega, HC2, bnext HB3.out ⟨rfl, rfl, rfl, Nat.le_refl _, fun _ _ => rfl⟩⟩
                  case measure => simp [intOf]; omega
              · have hc1 : c = 1 := by rw [HCT.out, List.take_of_length_le (by omega)]; exact HC1.out
                subst hc1
                clear HCT
                go_wp2
                go_roundw
                case rel => exact ⟨i + 1, by go_num, by omega, HB3⟩
                case measure => simp [intOf]; omega
          · go_wp2_with (go_at_call 9; refine (alive_any _).mono ?_; rintro e w8 ⟨rfl, hb8⟩)
            go_ret
            exact ⟨rfl, bnext (bnext HB6.out HB2.out) hb8⟩

set_option maxHeartbeats 1000000 in
theorem back_walk (s : S) (vr : Value) (rl : List Int) (vl : Value) (l : List S) (w : World) (hs : SOk s) (hr : Rd w vr rl) (hv : RdS w vl l) :
    Calls Try.prog 8 #[sv s, vr, vl] w fun e w' => e = .returned (.bool true) ∧ Below w.heap.size w w' := by
  by_cases h : rl.length ≤ 300 ∧ l.length ≤ 200
  · exact back_core s vr vl rl l w hs hr hv h.1 h.2
  · obtain ⟨ar, cr, rfl⟩ := hr.len
    obtain ⟨av, cv, rfl⟩ := hv.len
    have hcapr := hr.cap
    have hcapv := hv.cap
    obtain ⟨s1, s2⟩ := s
    unfold sv
    have h' : 300 < rl.length ∨ rl.length ≤ 300 ∧ 200 < l.length := by omega
    clear hr hv hs h
    rcases h' with h | ⟨h, h2⟩
    all_goals
      go_enter Try.func8, Try.ntmps8
      go_wp2_with (go_at_call 9; refine (alive_any _).mono ?_; rintro e w5 ⟨rfl, hb5⟩)
      go_ret
      exact ⟨rfl, bnext (balloc (Below.refl _ _) _) hb5⟩
end Go.Proofs.Ytmifionpagpnfaa
