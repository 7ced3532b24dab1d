/-
  slices.Compact over a row of stamps that the call made.
-/
import Derived.Test.YtmifionpagpnfaaRowS
namespace Go.Proofs.Ytmifionpagpnfaa
set_option linter.unusedVariables false
open Go.RowKit

theorem grown_drewN {w w' : World} {r : Option Nat} (h : w.grownBy w' r) (n : Nat) : w.grownBy (w'.drewN n) r := ⟨h.os, h.tape, h.output, h.size, h.block⟩
theorem dd_mem : ∀ (r : List S) (p s : S), s ∈ dd p r → s ∈ r
  | [], p, s, h => by simp [dd] at h
  | x :: r, p, s, h => by
    unfold dd at h
    split at h
    · exact List.mem_cons_of_mem _ (dd_mem r p s h)
    · rcases List.mem_cons.1 h with r1 | r1
      · rw [r1]; exact List.mem_cons_self
      · exact List.mem_cons_of_mem _ (dd_mem r x s r1)
theorem dedup_mem (l : List S) (s : S) (h : s ∈ dedup l) : s ∈ l := by
  cases l with
  | nil => simp [dedup] at h
  | cons x r =>
    rcases List.mem_cons.1 h with r1 | r1
    · rw [r1]; exact List.mem_cons_self
    · exact List.mem_cons_of_mem _ (dd_mem r x s r1)

set_option maxHeartbeats 4000000 in
set_option maxRecDepth 20000 in
theorem compact_core (B : Nat) (w : World) (g cap : Nat) (l : List S) (t : List Value) (hB : B ≤ g) (hb : Blk w g 23 (csS l ++ t)) (hc1 : l.length ≤ cap) (hc2 : cap ≤ maxLen) (hc3 : (csS l ++ t).length = cap * 2) (ho : ∀ s ∈ l, SOk s) (hl2 : 2 ≤ l.length) :
    Calls Try.prog 41 #[.slice (some ⟨g, 0, none⟩) l.length cap] w fun e w' => ∃ v', e = .returned v' ∧ OwnS B w' v' (dedup l) ∧ w.grownBy w' (some g) := by
  have HO : Hid (∀ s ∈ l, SOk s) := ho
  have HB0 : Hid (Blk w g 23 (csS l ++ t)) := hb
  have HC3 : Hid ((csS l ++ t).length = cap * 2) := hc3
  have HST : Hid (dedup l = l.take 1 ++ dd (l.getD 0 (0, 0)) (l.drop 1)) := by
    cases l with
    | nil => simp at hl2
    | cons x r => rfl
  have hc2' : cap ≤ 9223372036854775807 := by unfold maxLen at hc2; omega
  clear hb hc3 ho
  go_enter Try.func41, Try.ntmps41
  go_wp2
  go_loopw [3] (fun i wr => ∃ m : Nat, i = .int .i64 ((m : Int) + 1) ∧ m + 1 ≤ l.length ∧ Hid (dedup l = l.take (m + 1) ++ dd (l.getD m (0, 0)) (l.drop (m + 1))) ∧ Hid (Blk wr g 23 (csS l ++ t)) ∧ Hid (w.grownBy wr (some g))) (fun i _ => l.length - (intOf i).toNat)
  case atStart => exact ⟨0, rfl, by omega, HST, HB0, grown_refl _ _⟩
  case round =>
    obtain ⟨m, rfl, hkn, HI, HBr, HG⟩ := hrel
    clear HST HB0
    by_cases hk : m + 1 < l.length
    · have a0 := (row_at HBr.out (m + 1) hk).1
      have a1 := (row_at HBr.out (m + 1) hk).2
      have b0 := (row_at HBr.out m (by omega)).1
      have b1 := (row_at HBr.out m (by omega)).2
      have HD : Hid (l.drop (m + 1) = l.getD (m + 1) (0, 0) :: l.drop (m + 1 + 1)) := drop_getD hk
      have HT : Hid (l.take (m + 1 + 1) = l.take (m + 1) ++ [l.getD (m + 1) (0, 0)]) := take_more hk
      have HK : Hid (∀ i, m + 1 ≤ i → i < l.length → l.getD i (0, 0) = l.getD i (0, 0)) := fun i _ _ => rfl
      have HX : Hid (l.getD (m + 1) (0, 0) = l.getD (m + 1) (0, 0)) := rfl
      generalize hx : l.getD (m + 1) (0, 0) = x at a0 a1 HD HT
      generalize hy : l.getD m (0, 0) = y at b0 b1 HI
      have HX : Hid (l.getD (m + 1) (0, 0) = x) := hx
      obtain ⟨x1, x2⟩ := x
      obtain ⟨y1, y2⟩ := y
      dsimp only at a0 a1 b0 b1
      clear hx hy HK
      go_upto_region 6 with fail
      rcases pair_cases (x1, x2) (y1, y2) with he | he | ⟨he, he2⟩
      · obtain ⟨rfl, rfl⟩ : x1 = y1 ∧ x2 = y2 := by simpa using he
        go_quiet (fail)
        go_upto_region 8 with fail
        have HS1 : Hid (dedup l = l.take (m + 1) ++ dd (l.getD (m + 1 + 0) (0, 0)) (l.drop (m + 1 + 0 + 1))) := by
          show _ = _
          rw [HI.out, HD.out, Nat.add_zero, HX.out, dd_same]
        have HG1 : Hid (w.grownBy (wr.drewN nq) (some g)) := grown_drewN HG.out _
        have HB1 : Hid (Blk (wr.drewN nq) g 23 (csS l ++ t)) := HBr.out
        obtain ⟨w1, hw1⟩ : ∃ w1, w1 = wr.drewN nq := ⟨_, rfl⟩
        rw [← hw1] at HG1 HB1 ⊢
        clear hw1 HI HD HT HX HG HBr a0 a1 b0 b1 he
        go_wp2
        go_loopw [3, 5] (fun c i wr => ∃ (q kk : Nat) (L : List S), i = .int .i64 ((q : Int) + 1) ∧ c = .int .i64 (kk : Int) ∧ L.length = l.length ∧ kk ≤ m + 1 + q ∧ m + 1 + q + 1 ≤ l.length ∧ Hid (dedup l = L.take kk ++ dd (l.getD (m + 1 + q) (0, 0)) (l.drop (m + 1 + q + 1))) ∧ Hid (∀ i, m + 1 + q ≤ i → i < l.length → L.getD i (0, 0) = l.getD i (0, 0)) ∧ Hid (Blk wr g 23 (csS L ++ t)) ∧ Hid (w.grownBy wr (some g))) (fun _ i _ => l.length - (intOf i).toNat)
        case atStart => exact ⟨0, m + 1, l, rfl, by go_num, rfl, by omega, by omega, HS1, fun _ _ _ => rfl, HB1, HG1⟩
        case round =>
          obtain ⟨q, kk, L, rfl, rfl, hLl, hkk, hqn, HJ, HL, HB2, HG2⟩ := hrel
          clear HS1 HG1 HB1
          by_cases hq : m + 1 + q + 1 < l.length
          · have a0 := (row_at HB2.out (m + 1 + q + 1) (by omega)).1
            have a1 := (row_at HB2.out (m + 1 + q + 1) (by omega)).2
            have b0 := (row_at HB2.out (m + 1 + q) (by omega)).1
            have b1 := (row_at HB2.out (m + 1 + q) (by omega)).2
            have c0 := (row_at HB2.out kk (by omega)).1
            have c1 := (row_at HB2.out kk (by omega)).2
            have f0 := HB2.out.frozen (kk * 2)
            have f1 := HB2.out.frozen (kk * 2 + 1)
            rw [HL.out (m + 1 + q + 1) (by omega) hq] at a0 a1
            rw [HL.out (m + 1 + q) (by omega) (by omega)] at b0 b1
            rw [show (m + 1 + q + 1) * 2 = (m + 1) * 2 + (q + 1) * 2 by omega] at a0 a1
            rw [show (m + 1 + q) * 2 = (m + 1) * 2 + q * 2 by omega] at b0 b1
            have HD : Hid (l.drop (m + 1 + q + 1) = l.getD (m + 1 + q + 1) (0, 0) :: l.drop (m + 1 + q + 1 + 1)) := drop_getD hq
            generalize hx : l.getD (m + 1 + q + 1) (0, 0) = x at a0 a1 HD
            generalize hy : l.getD (m + 1 + q) (0, 0) = y at b0 b1 HJ
            have HX : Hid (l.getD (m + 1 + q + 1) (0, 0) = x) := hx
            obtain ⟨x1, x2⟩ := x
            obtain ⟨y1, y2⟩ := y
            generalize L.getD kk (0, 0) = z at c0 c1
            obtain ⟨z1, z2⟩ := z
            dsimp only at a0 a1 b0 b1 c0 c1
            clear hx hy
            go_upto_region 11 with fail
            rcases pair_cases (x1, x2) (y1, y2) with he | he | ⟨he, he2⟩
            · obtain ⟨rfl, rfl⟩ : x1 = y1 ∧ x2 = y2 := by simpa using he
              have HJ2 : Hid (dedup l = L.take kk ++ dd (l.getD (m + 1 + (q + 1)) (0, 0)) (l.drop (m + 1 + (q + 1) + 1))) := by
                show _ = _
                rw [HJ.out, HD.out, dd_same, show m + 1 + (q + 1) = m + 1 + q + 1 by omega, HX.out]
              go_quiet (fail)
              go_wp2
              go_roundw
              case rel => exact ⟨q + 1, kk, L, by go_num, rfl, hLl, by omega, by omega, HJ2, fun i h1 h2 => HL.out i (by omega) h2, HB2, grown_drewN HG2.out _⟩
              case measure => simp [intOf]; omega
            all_goals
              dsimp only at he
              have hne : ¬ (x1, x2) = (y1, y2) := fun e => by
                simp only [Prod.mk.injEq] at e
                simp_all
              have HJ2 : Hid (dedup l = (L.set kk (x1, x2)).take (kk + 1) ++ dd (l.getD (m + 1 + (q + 1)) (0, 0)) (l.drop (m + 1 + (q + 1) + 1))) := by
                show _ = _
                rw [HJ.out, HD.out, dd_other hne, show m + 1 + (q + 1) = m + 1 + q + 1 by omega, HX.out, take_more (by simp; omega), List.take_set_of_le (Nat.le_refl _)]
                simp [List.getD_eq_getElem?_getD, show kk < L.length by omega]
              clear hne
              try subst he
              go_quiet (fail)
              go_wp2
              go_roundw
              case rel =>
                refine ⟨q + 1, kk + 1, L.set kk (x1, x2), by go_num, by go_num, by simpa using hLl, by omega, by omega, HJ2, fun i h1 h2 => ?_, ?_, ?_⟩
                · rw [← HL.out i (by omega) h2]
                  simp [List.getD_eq_getElem?_getD, List.getElem?_set_ne (show kk ≠ i by omega)]
                · have K := (HB2.out.set (kk * 2) (.int .i64 x1)).set (kk * 2 + 1) (.int .i64 x2)
                  rw [csS_set L kk (x1, x2) t (by omega)] at K
                  exact K
                · exact grown_drewN (grown_trans (grown_trans HG2.out (grown_setCell _ _ _ _) (fun k hk => .inl hk)) (grown_setCell _ g _ _) (fun k hk => .inl hk)) _
              case measure => simp [intOf]; omega
          · have hql : m + 1 + q + 1 = l.length := by omega
            have HE : Hid (dedup l = L.take kk) := by show _ = _; rw [HJ.out, hql, List.drop_length]; simp [dd]
            have hlen : (csS L ++ t).length = cap * 2 := by have := HC3.out; rw [List.length_append, csS_length] at this ⊢; rw [hLl]; exact this
            obtain ⟨wz, vz, rz, bz, lz, tz, gz⟩ := run_clear g (kk * 2) (l.length - kk) (cap - kk) _ HB2.out (by omega) (by omega)
            have HBZ : Hid (Blk wz g 23 vz) := bz
            have HTZ : Hid (vz.length = cap * 2 ∧ vz.take (kk * 2) = csS (L.take kk)) := by
              refine ⟨lz.trans hlen, ?_⟩
              rw [tz, List.take_append_of_le_length (by rw [csS_length]; omega)]
              have e : csS L = csS (L.take kk) ++ csS (L.drop kk) := by rw [← csS_append, List.take_append_drop]
              have e2 : (csS (L.take kk)).length = kk * 2 := by rw [csS_length, List.length_take]; omega
              rw [e, ← e2, List.take_left]
            have HGZ : Hid (w.grownBy wz (some g)) := grown_trans HG2.out gz (fun k hk => .inl hk)
            clear bz lz tz gz hlen hql
            go_wp2
            go_ret
            refine ⟨_, rfl, ?_, HGZ.out⟩
            have hlk : (L.take kk).length = kk := by rw [List.length_take]; omega
            have K := blk_own (B := B) (l := L.take kk) (cap := cap) (fun s hs => HO.out s (dedup_mem l s (by rw [HE.out]; exact hs))) hB HBZ.out (by rw [hlk]; exact HTZ.out.2) (by omega) hc2 HTZ.out.1
            rw [hlk] at K
            rw [HE.out]
            exact K
      all_goals
        dsimp only at he
        have hne : ¬ (x1, x2) = (y1, y2) := fun e => by
          simp only [Prod.mk.injEq] at e
          simp_all
        have HI2 : Hid (dedup l = l.take (m + 1 + 1) ++ dd (l.getD (m + 1) (0, 0)) (l.drop (m + 1 + 1))) := by
          show _ = _
          rw [HI.out, HD.out, HX.out, dd_other hne, HT.out]
          simp
        clear hne
        go_quiet (fail)
        go_wp2
        go_roundw
        case rel => exact ⟨m + 1, by go_num, by omega, HI2, HBr, grown_drewN HG.out _⟩
        case measure => simp [intOf]; omega
    · have hkl : m + 1 = l.length := by omega
      have HE : Hid (dedup l = l) := by show _ = _; rw [HI.out, hkl, List.take_length, List.drop_length]; simp [dd]
      clear hkl
      go_wp2
      go_ret
      refine ⟨_, rfl, ?_, HG.out⟩
      rw [HE.out]
      exact blk_own HO.out hB HBr.out (by rw [← csS_length l, List.take_left]) hc1 hc2 HC3.out

theorem compact_any (B : Nat) (w : World) (v : Value) (l : List S) (h : OwnS B w v l) :
    Calls Try.prog 41 #[v] w fun e w' => ∃ v', e = .returned v' ∧ OwnS B w' v' (dedup l) ∧ w.grownBy w' v.ownBlock := by
  by_cases hl : 2 ≤ l.length
  · obtain ⟨g, cap, t, rfl, hB, hb, h1, h2, h3⟩ := own_blk h (by omega)
    exact compact_core B w g cap l t hB hb h1 h2 h3 h.1 hl
  · have hd : dedup l = l := by
      match l, hl with
      | [], _ => rfl
      | [x], _ => rfl
      | x :: y :: r, hl => simp at hl
    obtain ⟨a, c, rfl⟩ := h.rd.len
    have hcap := h.rd.cap
    have HH : Hid (OwnS B w (.slice a l.length c) l) := h
    clear h
    go_enter Try.func41, Try.ntmps41
    go_wp2
    go_ret
    exact ⟨_, rfl, HH.out, grown_refl _ _⟩
end Go.Proofs.Ytmifionpagpnfaa
