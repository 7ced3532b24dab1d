/-
  The walk of StampTicks: what a clock tells through any ticks and sights.
-/
import Derived.Test.YtmifionpagpnfaaClock
namespace Go.Proofs.Ytmifionpagpnfaa
set_option linter.unusedVariables false
open Go.RowKit

set_option maxHeartbeats 4000000 in
set_option maxRecDepth 20000 in
theorem ticks_core (x : Int) (v : Value) (l : List S) (w : World) (hx : 0 ≤ x ∧ x ≤ 7) (hv : RdS w v l) (hl : l.length ≤ 200) :
    Calls Try.prog 5 #[.int .i64 x, v] w fun e w' => e = .returned (.bool true) ∧ Below w.heap.size w w' := by
  obtain ⟨av, cv, rfl⟩ := hv.len
  have HV : Hid (RdS w (.slice av l.length cv) l) := hv
  have hcap := hv.cap
  have hn := fun w' => new_any x w' hx
  have hx1 := hx.1
  have hx2 := hx.2
  clear hv hx
  go_enter Try.func5, Try.ntmps5
  go_wp2_with (first
    | (go_at_call 29; refine (hn _).mono ?_; rintro e w1 ⟨rfl, hc, hb⟩))
  have HC0 : Hid (Clk w1 w.heap.size x 0) := hc
  have HB0 : Hid (Below w.heap.size w w1) := hb
  clear hc hb hn
  go_loopw [7, 8] (fun now i wr => ∃ (t : Int) (j : Nat), now = .int .i64 t ∧ i = .int .i64 j ∧ j ≤ l.length ∧ 0 ≤ t ∧ t ≤ 1099511627776 ∧ Clk wr w.heap.size x t ∧ Below w.heap.size w wr) (fun _ i _ => l.length - (intOf i).toNat)
  case atStart => exact ⟨0, 0, rfl, rfl, by omega, by omega, by omega, HC0.out, HB0.out⟩
  case round =>
    obtain ⟨t, j, rfl, rfl, hj, ht0, ht1, hc, hb⟩ := hrel
    have HC : Hid (Clk wr w.heap.size x t) := hc
    have HB : Hid (Below w.heap.size w wr) := hb
    clear hc hb HC0 HB0
    by_cases hjn : j < l.length
    · obtain ⟨bv, ov, rfl, g0, g1⟩ := HV.out.at HB.out j hjn
      have hcell : ∀ w', Below w.heap.size w w' → w'.cell? ⟨bv, ov + j * 2, none⟩ = some (.int .i64 (l.getD j (0, 0)).1) ∧ w'.cell? ⟨bv, ov + j * 2 + 1, none⟩ = some (.int .i64 (l.getD j (0, 0)).2) := fun w' h => by
        obtain ⟨b, o, e, h0, h1⟩ := HV.out.at h j hjn
        cases e
        exact ⟨h0, h1⟩
      have hok := HV.out.ok j hjn
      generalize hs : l.getD j (0, 0) = s at g0 g1 hok hcell
      obtain ⟨T, W⟩ := s
      dsimp only at g0 g1 hcell
      have HCE : Hid (∀ w', Below w.heap.size w w' → w'.cell? ⟨bv, ov + j * 2, none⟩ = some (.int .i64 T) ∧ w'.cell? ⟨bv, ov + j * 2 + 1, none⟩ = some (.int .i64 W)) := hcell
      clear hcell
      by_cases hW : W = -1
      · subst hW
        by_cases htm : t = 1099511627776
        · subst htm
          have hT := tick_end wr _ x _ HC.out (by omega)
          simp only [sv] at hT
          go_wp2_with (first
            | (go_at_call 31; refine hT.mono ?_; rintro e w2 ⟨rfl, hb2⟩))
          go_roundw
          case rel => exact ⟨_, j + 1, rfl, by go_num, by omega, by omega, by omega, HC.out.below (balloc hb2 _), bnext HB.out (balloc hb2 _)⟩
          case measure => simp [intOf]; omega
        · have hlt : t < 1099511627776 := by omega
          have hT := tick_any wr _ x t HC.out ⟨ht0, hlt⟩
          simp only [sv] at hT
          have hne : (t == 1099511627776) = false := by simpa using htm
          go_wp2_with (first
            | (go_at_call 31; refine hT.mono ?_; rintro e w2 ⟨rfl, hc2, hg2⟩))
          go_roundw
          case rel => exact ⟨_, j + 1, rfl, by go_num, by omega, by omega, by omega, Clk.below hc2 (balloc (Below.refl _ _) _), balloc (bgrown HB.out (Nat.le_refl _) hg2) _⟩
          case measure => simp [intOf]; omega
      · have hne : (W == -1) = false := by simpa using hW
        have hrr := fun w' => refright_any (T, W) w'
        by_cases hR : rightP (T, W)
        · rw [decide_eq_true hR] at hrr
          have hS := see_any wr _ x t (T, W) HC.out hR
          have hT1 : T ≤ 1099511627776 := hR.2.1
          simp only [sv] at hS hrr
          clear hR hW hs
          by_cases hm : t < T
          · rw [show max t T = T by omega] at hS
            go_wp2_with (first
              | (go_at_call 32; refine hS.mono ?_; rintro e w2 ⟨rfl, hc2, hg2⟩; have HB2 : Hid _ := bgrown HB.out (Nat.le_refl _) hg2; have c0 := (HCE.out _ HB2.out).1; have c1 := (HCE.out _ HB2.out).2; have HC2 : Hid _ := hc2; clear hc2 hg2)
              | (go_at_call 11; refine (hrr _).mono ?_; rintro e w3 ⟨rfl, hb3⟩; have HB3 : Hid _ := bnext HB2.out hb3; have d0 := (HCE.out _ HB3.out).1; have HC3 : Hid _ := Clk.below HC2.out hb3; clear hb3)
              | (go_at_call 30; refine (now_any _ _ _ _ HC3.out).mono ?_; rintro e w4 ⟨rfl, rfl⟩))
            go_roundw
            case rel => exact ⟨_, j + 1, rfl, by go_num, by omega, by omega, by omega, HC3.out, HB3.out⟩
            case measure => simp [intOf]; omega
          · rw [show max t T = t by omega] at hS
            go_wp2_with (first
              | (go_at_call 32; refine hS.mono ?_; rintro e w2 ⟨rfl, hc2, hg2⟩; have HB2 : Hid _ := bgrown HB.out (Nat.le_refl _) hg2; have c0 := (HCE.out _ HB2.out).1; have c1 := (HCE.out _ HB2.out).2; have HC2 : Hid _ := hc2; clear hc2 hg2)
              | (go_at_call 11; refine (hrr _).mono ?_; rintro e w3 ⟨rfl, hb3⟩; have HB3 : Hid _ := bnext HB2.out hb3; have d0 := (HCE.out _ HB3.out).1; have HC3 : Hid _ := Clk.below HC2.out hb3; clear hb3)
              | (go_at_call 30; refine (now_any _ _ _ _ HC3.out).mono ?_; rintro e w4 ⟨rfl, rfl⟩))
            go_roundw
            case rel => exact ⟨_, j + 1, rfl, by go_num, by omega, by omega, by omega, HC3.out, HB3.out⟩
            case measure => simp [intOf]; omega
        · rw [decide_eq_false hR] at hrr
          have hS := see_bad wr _ x t (T, W) HC.out hR
          simp only [sv] at hS hrr
          clear hR hW hs
          go_wp2_with (first
            | (go_at_call 32; refine hS.mono ?_; rintro e w2 ⟨rfl, hb2⟩; have HB2 : Hid _ := bnext HB.out hb2; have c0 := (HCE.out _ HB2.out).1; have c1 := (HCE.out _ HB2.out).2; have HC2 : Hid _ := Clk.below HC.out hb2; clear hb2)
            | (go_at_call 11; refine (hrr _).mono ?_; rintro e w3 ⟨rfl, hb3⟩; have HB3 : Hid _ := bnext HB2.out hb3; have d0 := (HCE.out _ HB3.out).1; have HC3 : Hid _ := Clk.below HC2.out hb3; clear hb3)
            | (go_at_call 30; refine (now_any _ _ _ _ HC3.out).mono ?_; rintro e w4 ⟨rfl, rfl⟩))
          go_roundw
          case rel => exact ⟨_, j + 1, rfl, by go_num, by omega, by omega, by omega, HC3.out, HB3.out⟩
          case measure => simp [intOf]; omega
    · have hT := fun w' => tick_nil w'
      have hS := fun w' => see_nil (0, 0) w'
      simp only [sv] at hT hS
      go_wp2_with (first
        | (go_at_call 31; refine (hT _).mono ?_; rintro e w2 ⟨rfl, hb2⟩; have HB2 : Hid _ := bnext HB.out hb2; clear hb2)
        | (go_at_call 32; refine (hS _).mono ?_; rintro e w3 ⟨rfl, hb3⟩; have HB3 : Hid _ := bnext (balloc HB2.out _) hb3; clear hb3)
        | (go_at_call 30; refine (now_nil _).mono ?_; rintro e w4 ⟨rfl, rfl⟩)
        | (go_at_call 9; refine (alive_any _).mono ?_; rintro e w5 ⟨rfl, hb5⟩; have HB5 : Hid _ := bnext HB3.out hb5; clear hb5))
      go_ret
      exact ⟨rfl, HB5.out⟩

set_option maxHeartbeats 1000000 in
theorem ticks_walk (x : Int) (v : Value) (l : List S) (w : World) (hx : I64 x) (hv : RdS w v l) :
    Calls Try.prog 5 #[.int .i64 x, v] w fun e w' => e = .returned (.bool true) ∧ Below w.heap.size w w' := by
  by_cases hl : l.length ≤ 200
  · by_cases hx' : 0 ≤ x ∧ x ≤ 7
    · exact ticks_core x v l w hx' hv hl
    · have hn := fun w' => new_bad x w' hx'
      obtain ⟨av, cv, rfl⟩ := hv.len
      have hcap := hv.cap
      have h3 : x < 0 ∨ (¬ x < 0 ∧ 8 ≤ x) := by omega
      clear hv hx'
      rcases h3 with h | ⟨h, h2⟩
      all_goals
        go_enter Try.func5, Try.ntmps5
        go_wp2_with (first
          | (go_at_call 29; refine (hn _).mono ?_; rintro e w1 ⟨rfl, rfl⟩)
          | (go_at_call 30; refine (now_nil _).mono ?_; rintro e w4 ⟨rfl, rfl⟩)
          | (go_at_call 9; refine (alive_any _).mono ?_; rintro e w5 ⟨rfl, hb5⟩))
        go_ret
        exact ⟨rfl, hb5⟩
  · obtain ⟨av, cv, rfl⟩ := hv.len
    have hcap := hv.cap
    clear hv
    go_enter Try.func5, Try.ntmps5
    go_wp2_with (go_at_call 9; refine (alive_any _).mono ?_; rintro e w5 ⟨rfl, hb5⟩)
    go_ret
    exact ⟨rfl, hb5⟩

end Go.Proofs.Ytmifionpagpnfaa
