/-
  The walk of StampBehind: what a clock ticks rises, and is behind all that it has seen.
-/
import Derived.Test.YtmifionpagpnfaaClock
import Derived.Test.YtmifionpagpnfaaOwnS
import Derived.Deep.DeepCutAuto
namespace Go.Proofs.Ytmifionpagpnfaa
set_option linter.unusedVariables false
open Go.RowKit

/-- What the law holds at each round: the clock, what was seen, and that nothing seen is behind the clock. -/
structure Seen (w w1 wr : World) (b : Nat) (x t : Int) (v : Value) (ls : List S) : Prop where
  clk : Clk wr b x t
  own : OwnS w1.heap.size wr v ls
  low : ∀ s ∈ ls, s.1 ≤ t
  bel : Below w.heap.size w wr
  room : w1.heap.size ≤ wr.heap.size
theorem Seen.next {w w1 wr wr' : World} {b : Nat} {x t : Int} {v : Value} {ls : List S} (h : Seen w w1 wr b x t v ls) (hb : Below wr.heap.size wr wr') : Seen w w1 wr' b x t v ls :=
  ⟨h.clk.below hb, h.own.below hb, h.low, bnext h.bel hb, Nat.le_trans h.room hb.size⟩

set_option maxHeartbeats 4000000 in
set_option maxRecDepth 20000 in
theorem behind_core (x : Int) (v : Value) (l : List S) (w : World) (hx : 0 ≤ x ∧ x ≤ 7) (hv : RdS w v l) (hl : l.length ≤ 200) :
    Calls Try.prog 7 #[.int .i64 x, v] w fun e w' => e = .returned (.bool true) ∧ Below w.heap.size w w' := by
  obtain ⟨av, cv, rfl⟩ := hv.len
  have HV : Hid (RdS w (.slice av l.length cv) l) := hv
  have hcap := hv.cap
  have hn := fun w' => new_any x w' hx
  have hx1 := hx.1
  have hx2 := hx.2
  have HX : Hid (I64 x) := ⟨by omega, by omega⟩
  clear hv hx
  go_enter Try.func7, Try.ntmps7
  go_wp2_with (first
    | (go_at_call 29; refine (hn _).mono ?_; rintro e w1 ⟨rfl, hc, hb⟩))
  have hlt1 := hc.lt
  have H0 : Hid (Seen w w1 w1 w.heap.size x 0 (.slice none 0 0) []) := ⟨hc, ownS_nil _ _, (fun _ h => by cases h), hb, Nat.le_refl _⟩
  clear hc hb hn
  go_loopw [7, 8] (fun sv i wr => ∃ (t : Int) (j : Nat) (ls : List S), i = .int .i64 j ∧ j ≤ l.length ∧ ls.length ≤ 2 * j ∧ 0 ≤ t ∧ t ≤ 1099511627776 ∧ Seen w w1 wr w.heap.size x t sv ls) (fun _ i _ => l.length - (intOf i).toNat)
  case atStart => exact ⟨0, 0, [], rfl, by omega, by simp, by omega, by omega, H0.out⟩
  case round =>
    obtain ⟨t, j, ls, rfl, hj, hls, ht0, ht1, hsn⟩ := hrel
    have HS : Hid (Seen w w1 wr w.heap.size x t u7 ls) := hsn
    clear hsn H0
    by_cases hjn : j < l.length
    · obtain ⟨ax, cx, hvs⟩ := HS.out.own.rd.len
      subst hvs
      have hcapS := HS.out.own.rd.cap
      obtain ⟨bv, ov, rfl, g0, g1⟩ := HV.out.at HS.out.bel j hjn
      have hcell : ∀ w', Below w.heap.size w w' → w'.cell? ⟨bv, ov + j * 2, none⟩ = some (.int .i64 (l.getD j (0, 0)).1) ∧ w'.cell? ⟨bv, ov + j * 2 + 1, none⟩ = some (.int .i64 (l.getD j (0, 0)).2) := fun w' h => by
        obtain ⟨b, o, e, h0, h1⟩ := HV.out.at h j hjn
        cases e
        exact ⟨h0, h1⟩
      have hok := HV.out.ok j hjn
      generalize hs : l.getD j (0, 0) = s at g0 g1 hok hcell
      obtain ⟨T, W⟩ := s
      dsimp only at g0 g1 hcell
      have HCE : Hid (∀ w', Below w.heap.size w w' → w'.cell? ⟨bv, ov + j * 2, none⟩ = some (.int .i64 T) ∧ w'.cell? ⟨bv, ov + j * 2 + 1, none⟩ = some (.int .i64 W)) := hcell
      have HOK : Hid (SOk (T, W)) := hok
      clear hcell hok hs
      by_cases hR : rightP (T, W)
      case' pos =>
        have hS := see_any wr _ x t (T, W) HS.out.clk hR
        have hT1 : T ≤ 1099511627776 := hR.2.1
        simp only [sv] at hS
        generalize hm : max t T = t3 at hS
        have ht30 : t ≤ t3 := by omega
        have ht3T : T ≤ t3 := by omega
        have ht31 : t3 ≤ 1099511627776 := by omega
        clear hR hm
        go_upto_region 12 with (first
          | (go_at_call 32; refine hS.mono ?_; rintro e w2 ⟨rfl, hc2, hg2⟩; have HB2 : Hid _ := bgrown HS.out.bel (Nat.le_refl _) hg2; have HO2 : Hid _ := HS.out.own.past hg2 hlt1; have hsz2 := Nat.le_trans HS.out.room hg2.size; have c0 := (HCE.out _ HB2.out).1; have c1 := (HCE.out _ HB2.out).2; have HC2 : Hid _ := hc2; clear hc2 hg2)
          | (at_builtin; go_must (refine wpList_append_stamps rfl (.tmp 44) (.tmp 49) rfl w1.heap.size _ ls rfl (OwnS.below HO2.out (balloc (Below.refl _ _) _)) _ [(T, W)] rfl (rdS_one w2 (T, W) HOK.out) (by simp; omega) (by simp; omega) ?_; intro v3 w3 hown3 hg3)))
        have HS3 : Hid (Seen w w1 w3 w.heap.size x t3 v3 (ls ++ [(T, W)])) := by
          have hne : ∀ k, (Value.slice ax ls.length cx).ownBlock = some k → w1.heap.size ≤ k := fun k hk => (OwnS.lt HO2.out k hk).1
          have hcl : Clk w3 w.heap.size x t3 := Blk.block (Clk.below HC2.out (balloc (Below.refl _ _) (.cells #[.int .i64 T, .int .i64 W] 23))) (hg3.block _ (by have := Clk.lt HC2.out; simp; omega) (fun e => by have := hne _ e.symm; omega))
          refine ⟨hcl, hown3, fun s hs => ?_, (balloc HB2.out _).grown hg3 (by have := HB2.out.size; simp; omega) (fun k hk => by have := hne k hk; omega), by have := hg3.size; simp at this; omega⟩
          rcases List.mem_append.1 hs with r | r
          · have := HS.out.low s r; omega
          · simp at r; rw [r]; exact ht3T
        have hls3 : (ls ++ [(T, W)]).length ≤ 2 * j + 1 := by simp; omega
        generalize ls ++ [(T, W)] = ls3 at HS3 hls3
        clear hown3 hg3 HO2 HC2 HB2 HS hls hcapS hS
        obtain ⟨ax3, cx3, hv3⟩ := HS3.out.own.rd.len
        subst hv3
      case' neg =>
        have hS := see_bad wr _ x t (T, W) HS.out.clk hR
        simp only [sv] at hS
        clear hR
        go_upto_region 12 with (first
          | (go_at_call 32; refine hS.mono ?_; rintro e w3 ⟨rfl, hb3⟩))
        have HS3 : Hid (Seen w w1 w3 w.heap.size x t (.slice ax ls.length cx) ls) := HS.out.next hb3
        have ht30 : t ≤ t := Int.le_refl t
        have hls3 : ls.length ≤ 2 * j + 1 := by omega
        have ht31 : t ≤ 1099511627776 := ht1
        clear HS hls hcapS hb3 hS
        obtain ⟨t3, et3⟩ : ∃ t3, t3 = t := ⟨_, rfl⟩
        subst et3
        obtain ⟨ls3, els⟩ : ∃ z, z = ls := ⟨_, rfl⟩
        subst els
        obtain ⟨ax3, eax⟩ : ∃ z, z = ax := ⟨_, rfl⟩
        subst eax
        obtain ⟨cx3, ecx⟩ : ∃ z, z = cx := ⟨_, rfl⟩
        subst ecx
      all_goals
        have ht3n : 0 ≤ t3 := by omega
        have hcap3 := HS3.out.own.rd.cap
        clear g0 g1 HCE HOK ht0 ht1 ht30
        by_cases htm : t3 = 1099511627776
        · subst htm
          have hT := tick_end w3 _ x _ HS3.out.clk (by omega)
          simp only [sv] at hT
          go_wp2_with (first
            | (go_at_call 31; refine hT.mono ?_; rintro e w4 ⟨rfl, hb4⟩; have HC4 : Hid _ := Clk.below HS3.out.clk (balloc hb4 (.cells #[.int .i64 0, .int .i64 0] 23)); have HB4 : Hid _ := bnext HS3.out.bel (balloc hb4 (.cells #[.int .i64 0, .int .i64 0] 23)); clear hb4)
            | (go_at_call 30; refine (now_any _ _ _ _ HC4.out).mono ?_; rintro e w5 ⟨rfl, rfl⟩)
            | (go_at_call 9; refine (alive_any _).mono ?_; rintro e w6 ⟨rfl, hb6⟩))
          go_ret
          exact ⟨rfl, bnext HB4.out hb6⟩
        · have hlt3 : t3 < 1099511627776 := by omega
          have hT := tick_any w3 _ x t3 HS3.out.clk ⟨ht3n, hlt3⟩
          simp only [sv] at hT
          go_upto_region 13 with (first
            | (go_at_call 31; refine hT.mono ?_; rintro e w4 ⟨rfl, hc4, hg4⟩))
          have HS4 : Hid (Seen w w1 (w4.alloc (.cells #[.int .i64 (t3 + 1), .int .i64 x] 23)) w.heap.size x (t3 + 1) (.slice ax3 ls3.length cx3) ls3) :=
            Seen.next (wr := w4) ⟨hc4, HS3.out.own.past hg4 hlt1, fun s hs => by have := HS3.out.low s hs; omega, bgrown HS3.out.bel (Nat.le_refl _) hg4, Nat.le_trans HS3.out.room hg4.size⟩ (balloc (Below.refl _ _) _)
          have HK4 : Hid (Blk (w4.alloc (.cells #[.int .i64 (t3 + 1), .int .i64 x] 23)) w4.heap.size 23 [.int .i64 (t3 + 1), .int .i64 x]) := blk_new w4 [.int .i64 (t3 + 1), .int .i64 x] 23
          have HLE : Hid (∀ s ∈ ls3, s.1 ≤ t3) := HS3.out.low
          generalize w4.heap.size = bs at HK4 ⊢
          generalize (w4.alloc (.cells #[.int .i64 (t3 + 1), .int .i64 x] 23)) = w5 at HS4 HK4 ⊢
          clear hc4 hg4 hT HS3 htm
          go_wp2
          go_loopw [11] (fun n wr => ∃ m : Nat, n = .int .i64 m ∧ m ≤ ls3.length ∧ Seen w w1 wr w.heap.size x (t3 + 1) (.slice ax3 ls3.length cx3) ls3 ∧ Blk wr bs 23 [.int .i64 (t3 + 1), .int .i64 x]) (fun n _ => ls3.length - (intOf n).toNat)
          case atStart => exact ⟨0, rfl, by omega, HS4.out, HK4.out⟩
          case round =>
            obtain ⟨m, rfl, hm, hs5, hk5⟩ := hrel
            have HS5 : Hid (Seen w w1 wr w.heap.size x (t3 + 1) (.slice ax3 ls3.length cx3) ls3) := hs5
            have HK5 : Hid (Blk wr bs 23 [.int .i64 (t3 + 1), .int .i64 x]) := hk5
            have y0 := hk5.cell 0 _ rfl
            have y1 := hk5.cell 1 _ rfl
            clear HS4 HK4 hs5 hk5
            by_cases hmn : m < ls3.length
            · obtain ⟨bx, ox, rfl, z0, z1⟩ := HS5.out.own.rd.at (Below.refl _ _) m hmn
              have hlow : (ls3.getD m (0, 0)).1 ≤ t3 := HLE.out _ (by rw [List.getD_eq_getElem?_getD, List.getElem?_eq_getElem hmn]; exact List.getElem_mem hmn)
              generalize ls3.getD m (0, 0) = q at z0 z1 hlow
              obtain ⟨q1, q2⟩ := q
              dsimp only at z0 z1 hlow
              have hL := fun w' => less_any (q1, q2) (t3 + 1, x) w'
              rw [decide_eq_true (show ltP (q1, q2) (t3 + 1, x) from .inl (by show q1 < t3 + 1; omega))] at hL
              simp only [sv] at hL
              go_upto_region 18 with fail
              refine wp_region_three (C := fun v => ∃ n, v = wr.drewN n) 5 (by kernel_rfl) (by kernel_rfl) rfl rfl ⟨1, rfl⟩ ?_
              simp only [List.take_succ_cons, List.take_zero, List.drop_succ_cons, List.drop_zero]
              repeat (go_big_quiet_step (fail))
              refine wpQuiet_nil ?_
              intro w6 hw6
              obtain ⟨n6, hn6⟩ := hw6
              subst hn6
              go_simp
              refine (hL _).mono ?_
              rintro e w7 ⟨rfl, hb7⟩
              have HB7 : Hid (Below wr.heap.size wr w7) := ⟨hb7.os, hb7.tape, hb7.output, hb7.size, hb7.block⟩
              clear hb7
              dsimp only
              go_simp
              repeat (go_big_quiet_step (fail))
              refine wpQuiet_nil ?_
              go_wp2
              go_roundw
              case rel => exact ⟨m + 1, by go_num, by omega, HS5.out.next HB7.out, HK5.out.below HB7.out⟩
              case measure => simp [intOf]; omega
            · go_wp2_with (at_builtin; go_must (refine wpList_append_stamps rfl (.tmp 77) (.tmp 79) rfl w1.heap.size _ ls3 rfl (OwnS.below HS5.out.own (balloc (Below.refl _ _) _)) _ [(t3 + 1, x)] rfl (rdS_one wr (t3 + 1, x) ⟨⟨by show (-9223372036854775808 : Int) ≤ t3 + 1; omega, by show t3 + 1 ≤ 9223372036854775807; omega⟩, HX.out⟩) (by simp; omega) (by have := HS5.out.room; simp; omega) ?_; intro v8 w8 hown8 hg8))
              go_roundw
              case rel =>
                refine ⟨t3 + 1, j + 1, ls3 ++ [(t3 + 1, x)], by go_num, by omega, by simp; omega, by omega, by omega, ?_⟩
                have hne : ∀ k, (Value.slice ax3 ls3.length cx3).ownBlock = some k → w1.heap.size ≤ k := fun k hk => (OwnS.lt HS5.out.own k hk).1
                have hcl : Clk w8 w.heap.size x (t3 + 1) := Blk.block (Clk.below HS5.out.clk (balloc (Below.refl _ _) (.cells #[.int .i64 (t3 + 1), .int .i64 x] 23))) (hg8.block _ (by have := Clk.lt HS5.out.clk; simp; omega) (fun e => by have := hne _ e.symm; omega))
                refine ⟨hcl, hown8, fun s hs => ?_, (balloc HS5.out.bel _).grown hg8 (by have := HS5.out.bel.size; simp; omega) (fun k hk => by have := hne k hk; omega), by have := HS5.out.room; have := hg8.size; simp at this; omega⟩
                rcases List.mem_append.1 hs with r | r
                · have := HLE.out s r; omega
                · simp at r; rw [r]; exact Int.le_refl _
              case measure => simp [intOf]; omega
    · go_wp2_with (first
        | (go_at_call 9; refine (alive_any _).mono ?_; rintro e w5 ⟨rfl, hb5⟩))
      go_ret
      exact ⟨rfl, bnext HS.out.bel hb5⟩

set_option maxHeartbeats 1000000 in
theorem behind_walk (x : Int) (v : Value) (l : List S) (w : World) (hx : I64 x) (hv : RdS w v l) :
    Calls Try.prog 7 #[.int .i64 x, v] w fun e w' => e = .returned (.bool true) ∧ Below w.heap.size w w' := by
  by_cases hx' : 0 ≤ x ∧ x ≤ 7
  · by_cases hl : l.length ≤ 200
    · exact behind_core x v l w hx' hv hl
    · obtain ⟨av, cv, rfl⟩ := hv.len
      have hcap := hv.cap
      have h1 := hx'.1
      have h2 := hx'.2
      clear hv hx hx'
      go_enter Try.func7, Try.ntmps7
      go_wp2_with (go_at_call 9; refine (alive_any _).mono ?_; rintro e w5 ⟨rfl, hb5⟩)
      go_ret
      exact ⟨rfl, hb5⟩
  · obtain ⟨av, cv, rfl⟩ := hv.len
    have hcap := hv.cap
    have h3 : x < 0 ∨ (¬ x < 0 ∧ 8 ≤ x) := by omega
    clear hv hx'
    rcases h3 with h | ⟨h, h2⟩
    all_goals
      go_enter Try.func7, Try.ntmps7
      go_wp2_with (go_at_call 9; refine (alive_any _).mono ?_; rintro e w5 ⟨rfl, hb5⟩)
      go_ret
      exact ⟨rfl, hb5⟩
end Go.Proofs.Ytmifionpagpnfaa
