/-
  What is sealed under one key is opened by that key alone, with what it is bound to alone: the walk up to the bytes that are turned.
-/
import Derived.Test.YtcacioogklgahaaAlive3
import Derived.Test.YtcacioogklgahaaPure4
import Derived.Test.YtcacioogklgahaaSealsA
namespace Go.Proofs.Ytcacioogklgahaa
set_option linter.unusedVariables false
set_option synthInstance.maxSize 20000
open Classical
open Go.RowKit Go.Maps

set_option maxHeartbeats 4000000 in
set_option maxRecDepth 20000 in
theorem seals_B (ad ab ao ap : Option Addr) (cd cb co cp : Nat) (ds bd ot pl : List Int) (at0 by0 : Int) (W : World) (k j : Int) (S1 S2 S3 : St) (bx : List Int) (q3 : List Int) (c : Int)
    (HD : Hid (RdU W (.slice ad ds.length cd) ds)) (HB : Hid (Rd W (.slice ab bd.length cb) bd)) (HO : Hid (Rd W (.slice ao ot.length co) ot)) (HP : Hid (Rd W (.slice ap pl.length cp) pl))
    (h1 : ds.length ≤ 100) (h2 : bd.length ≤ 300) (h3 : ot.length ≤ 300) (h4 : pl.length ≤ 1500)
    (KK : Hid (St.fresh ⟨ds, []⟩ = k)) (KS1 : Hid (St.put ⟨ds, []⟩ .key = S1)) (KJ : Hid (S1.fresh = j)) (KS2 : Hid (S1.put .key = S2))
    (uk : U64 k) (n1 : S1.rows.length = 1) (n2 : S2.rows.length = 2)
    (KSEAL : Hid (S2.seal k bd pl = ((bx, 0), S3))) (KO1 : Hid (S3.open k bd bx = (pl, 0))) (KO2 : Hid (S3.open j bd bx = ([], 11))) (KO3 : Hid (S3.open k ot bx = (q3, 5)))
    (HL : Hid (∀ l k b p, S3.find l = some (.seal k b p) → p.length ≤ 1000000))
    (HC : Hid (∀ w, Calls Try.prog 18 #[.int .i64 (pl.length : Int)] w fun e w' => e = .returned (.int .i64 c) ∧ Below w.heap.size w w')) (hc0 : 0 ≤ c)
    (HBO : Hid (decide (bd = ot) = false)) (hby0 : 0 ≤ by0 ∧ by0 < 256) (hz : bx.length ≤ 2000)
    (HOX : Hid (Oct bx)) (HKO4 : Hid (∀ c, c ≠ bx → S3.open k bd c = ([], 4))) :
    Calls Try.prog 5 #[.slice ad ds.length cd, .slice ab bd.length cb, .slice ao ot.length co, .slice ap pl.length cp, .int .i64 at0, .int .u8 by0] W fun e w' => e = .returned (.bool true) ∧ Below W.heap.size W w' := by
  go_enter Try.func5, Try.ntmps5
  go_upto_region 13 with (first
          | (go_at_call 11; go_must (refine (new_at W W (Below.refl _ W) _ ds HD.out (by omega)).mono ?_; rintro e w1 ⟨b, rfl, ft, hA, hn⟩))
          | (go_at_call 16; go_must (first
            | (refine (key_any w1 b ft ⟨ds, []⟩ hA.rep (by simp)).mono ?_; rw [KK.out, KS1.out]; rintro e w2 ⟨rfl, hl⟩; obtain ⟨ft2, hA2, _, _⟩ := hA.left hl; clear hA hl)
            | (refine (key_any w2 b ft2 S1 hA2.rep (by omega)).mono ?_; rw [KJ.out, KS2.out]; rintro e w3 ⟨rfl, hl⟩; obtain ⟨ft3, hA3, _, _⟩ := hA2.left hl; clear hA2 hl)))
          | (go_at_call 17; go_must (refine (seal_any w3 b ft3 S2 hA3.rep (by omega) k uk _ bd (hA3.rd HB.out) _ pl (hA3.rd HP.out) (by omega)).mono ?_; rw [KSEAL.out]; rintro e w4 ⟨v4, rfl, hl⟩; obtain ⟨ft4, hA4, rd4, out4, of4, tn4, own4⟩ := hA3.leftB hl; clear hA3 hl out4 of4 tn4 own4; obtain ⟨a4, c4, rfl⟩ := rd4.len; have HA4 : Hid (At W w4 b ft4 S3) := hA4; have RD4 : Hid (Rd w4 (.slice a4 bx.length c4) bx) := rd4; clear hA4 rd4))
          | (go_at_call 18; go_must (refine (HC.out w4).mono ?_; rintro e w5 ⟨rfl, hb5⟩; have HA5 : Hid (At W w5 b ft4 S3) := HA4.out.below hb5; have RD5 : Hid (Rd w5 (.slice a4 bx.length c4) bx) := RD4.out.below hb5; clear HA4 RD4 hb5))
          | (go_at_call 19; go_must (first
            | (refine (open_any w5 b ft4 S3 HA5.out.rep k _ bd (HA5.out.rd HB.out) _ bx RD5.out (HL.out bx)).mono ?_; rw [KO1.out]; rintro e w6 ⟨v6, rfl, rx6, hb6, _⟩; have HA6 : Hid (At W w6 b ft4 S3) := HA5.out.below hb6; have RD6 : Hid (Rd w6 (.slice a4 bx.length c4) bx) := RD5.out.below hb6; have RX6 : Hid (Rd w6 v6 pl) := rx6; clear HA5 RD5 rx6 hb6)
            | (refine (open_any w6 b ft4 S3 HA6.out.rep j _ bd (HA6.out.rd HB.out) _ bx RD6.out (HL.out bx)).mono ?_; rw [KO2.out]; rintro e w7 ⟨v7, rfl, _, hb7, _⟩; have HA7 : Hid (At W w7 b ft4 S3) := HA6.out.below hb7; have RD7 : Hid (Rd w7 (.slice a4 bx.length c4) bx) := RD6.out.below hb7; have RX7 : Hid (Rd w7 v6 pl) := RX6.out.below hb7; clear HA6 RD6 RX6 hb7)
            | (refine (open_any w7 b ft4 S3 HA7.out.rep k _ ot (HA7.out.rd HO.out) _ bx RD7.out (HL.out bx)).mono ?_; rw [KO3.out]; rintro e w8 ⟨v8, rfl, _, hb8, _⟩; have HA8 : Hid (At W w8 b ft4 S3) := HA7.out.below hb8; have RD8 : Hid (Rd w8 (.slice a4 bx.length c4) bx) := RD7.out.below hb8; have RX8 : Hid (Rd w8 v6 pl) := RX7.out.below hb8; clear HA7 RD7 RX7 hb8)))
          | (go_at_call 15; go_must (first
            | (refine (same_any _ _ pl pl w8 RX8.out (HA8.out.rd HP.out)).mono ?_; rw [decide_eq_true (rfl : pl = pl)]; rintro e w9 ⟨rfl, hb9⟩; have HA9 : Hid (At W w9 b ft4 S3) := HA8.out.below hb9; have RD9 : Hid (Rd w9 (.slice a4 bx.length c4) bx) := RD8.out.below hb9; clear HA8 RD8 RX8 hb9)
            | (refine (same_any _ _ bd ot w9 (HA9.out.rd HB.out) (HA9.out.rd HO.out)).mono ?_; rw [HBO.out]; rintro e w10 ⟨rfl, hb10⟩; have HA10 : Hid (At W w10 b ft4 S3) := HA9.out.below hb10; have RD10 : Hid (Rd w10 (.slice a4 bx.length c4) bx) := RD9.out.below hb10; clear HA9 RD9 hb10))))
  clear HD HO KK KS1 KJ KS2 KSEAL KO1 KO2 KO3 HC HBO HP
  have hA10 := HA10.out
  by_cases h5 : 0 ≤ at0
  · obtain ⟨at1, rfl⟩ := Int.eq_ofNat_of_zero_le h5
    by_cases hat : at1 < bx.length
    · by_cases h7 : by0 = 0
      · subst h7
        go_wp2_with (go_at_call 10; go_must (refine (alive_any _).mono ?_; rintro e w12 ⟨rfl, hb12⟩))
        go_ret
        exact ⟨rfl, bnext hA10.bel hb12⟩
      · have hbb := HOX.out.at at1
        obtain ⟨hx1, hx2, hx3⟩ := xor_u8 (bx.getD at1 0) by0 hbb hby0 h7
        obtain ⟨y, hy⟩ : ∃ y, bx.getD at1 0 = y := ⟨_, rfl⟩
        have hse := set_ne hat hx3
        rw [hy] at hx1 hx2 hse
        have HY : Hid (bx.getD at1 0 = y) := hy
        have hx11 : 0 ≤ bits .xor .u8 y by0 ∧ bits .xor .u8 y by0 < 256 := ⟨hx1, hx2⟩
        have KO4 : Hid (S3.open k bd (bx.set at1 (bits .xor .u8 y by0)) = ([], 4)) := HKO4.out _ hse
        have h7' : (by0 == 0) = false := by simpa using h7
        have hat' : ¬ ((bx.length : Int) ≤ (at1 : Int)) := by omega
        have hX11 : Hid (0 ≤ bits .xor .u8 y by0 ∧ bits .xor .u8 y by0 < 256) := hx11
        clear hx1 hx2 hx3 h7 h5 hy hse hbb hx11 hA10
        go_wp2_with (first
          | (go_at_call 19; go_must (refine (open_any (w11.setCell ⟨g11, at1, none⟩ (.int .u8 (bits .xor .u8 y by0))) b ft4 S3 HA11.out.rep k _ bd (HA11.out.rd HB.out) _ (bx.set at1 (bits .xor .u8 y by0)) RD11.out (HL.out _)).mono ?_; rw [KO4.out]; rintro e w13 ⟨v13, rfl, _, hb13, _⟩; have hA13 := HA11.out.below hb13; clear KO4))
          | (at_builtin; refine wpList_append_cells 38 5 bytes5 rfl _ _ rfl w10.heap.size _ [] rfl (own_empty w10) _ bx rfl (RD10.out.below (balloc (Below.refl _ w10) _)) (by simp only [List.length_nil]; omega) (by simp) ?_; intro v11 w11 hown hg11; rw [List.nil_append] at hown; obtain ⟨g11, c11, rfl, hge, hlt11, hle11, hmx11, hc11, hf11, hset⟩ := own_set hown hat; rw [HY.out] at hc11; have hb11 : Below w10.heap.size w10 w11 := bgrown (balloc (Below.refl _ w10) _) (Nat.le_refl _) hg11; have HA11 : Hid (At W (w11.setCell ⟨g11, at1, none⟩ (.int .u8 (bits .xor .u8 y by0))) b ft4 S3) := (HA10.out.below hb11).turn (X := [g11]) (Turn.of_grown (grown_setCell _ _ _ _) (by simp)) (fun k hk e => (by simp at e; have := HA10.out.rep.room k hk; omega)) (fun k hk => (by simp at hk; have := HA10.out.bel.size; omega)); have RD11 : Hid (Rd _ _ _) := hset _ hX11.out; clear hset hown hg11 hb11 HA10 RD10)
          | (go_at_call 10; go_must (refine (alive_any _).mono ?_; rintro e w12 ⟨rfl, hb12⟩)))
        go_ret
        exact ⟨rfl, bnext hA13.bel hb12⟩
    · have hat' : ((bx.length : Int) ≤ (at1 : Int)) := by omega
      go_wp2_with (go_at_call 10; go_must (refine (alive_any _).mono ?_; rintro e w12 ⟨rfl, hb12⟩))
      go_ret
      exact ⟨rfl, bnext hA10.bel hb12⟩
  · have h5' : at0 < 0 := by omega
    go_wp2_with (go_at_call 10; go_must (refine (alive_any _).mono ?_; rintro e w12 ⟨rfl, hb12⟩))
    go_ret
    exact ⟨rfl, bnext hA10.bel hb12⟩
end Go.Proofs.Ytcacioogklgahaa
