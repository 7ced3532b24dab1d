/-
  What is sealed under one key is opened by that key alone, with what it is bound to alone, and with any byte turned it is nothing's: all ways through the law.
-/
import Derived.Test.YtcacioogklgahaaSealsB
namespace Go.Proofs.Ytcacioogklgahaa
set_option linter.unusedVariables false
set_option synthInstance.maxSize 20000
open Classical
open Go.RowKit Go.Maps

set_option maxHeartbeats 4000000 in
set_option maxRecDepth 20000 in
theorem seals_walk (dv vb vo vp : Value) (ds bd ot pl : List Int) (at0 by0 : Int) (W : World) (hd : RdU W dv ds) (hb : Rd W vb bd) (ho : Rd W vo ot) (hp : Rd W vp pl) (hby0 : 0 ≤ by0 ∧ by0 < 256) :
    Calls Try.prog 5 #[dv, vb, vo, vp, .int .i64 at0, .int .u8 by0] W fun e w' => e = .returned (.bool true) ∧ Below W.heap.size W w' := by
  have HD : Hid (RdU W dv ds) := hd
  have HB : Hid (Rd W vb bd) := hb
  have HO : Hid (Rd W vo ot) := ho
  have HP : Hid (Rd W vp pl) := hp
  have hdd := hd.1
  have hob := hb.oct
  have hop := hp.oct
  obtain ⟨_, ad, cd, rfl, hd1, hd2, _⟩ := hd
  obtain ⟨_, ab, cb, rfl, hb1, hb2, _⟩ := hb
  obtain ⟨_, ao, co, rfl, ho1, ho2, _⟩ := ho
  obtain ⟨_, ap, cp, rfl, hp1, hp2, _⟩ := hp
  unfold maxLen at hd2 hb2 ho2 hp2
  by_cases h1 : ds.length ≤ 100
  · by_cases h2 : bd.length ≤ 300
    · by_cases h3 : ot.length ≤ 300
      · by_cases h4 : pl.length ≤ 1500
        · obtain ⟨k, j, S1, S2, hk, hS1, hj, hS2, uk, uj, n1, n2, hbad, hgood⟩ := seals_facts ds hdd (ot := ot) hob hop h4
          have HC : Hid (∀ w, Calls Try.prog 18 #[.int .i64 (pl.length : Int)] w fun e w' => e = .returned (.int .i64 (cls pl.length)) ∧ Below w.heap.size w w') := fun w => by
            have := class_any (pl.length : Int) w (by omega)
            rw [clsI_nat] at this
            exact this
          have hcl := cls_lt pl.length
          by_cases hc : cls pl.length = -1
          · have KK : Hid (St.fresh ⟨ds, []⟩ = k) := hk
            have KS1 : Hid (St.put ⟨ds, []⟩ .key = S1) := hS1
            have KJ : Hid (S1.fresh = j) := hj
            have KS2 : Hid (S1.put .key = S2) := hS2
            clear hk hS1 hj hS2
            have KSEAL : Hid (S2.seal k bd pl = (([], 3), S2)) := hbad hc
            rw [hc] at HC
            clear hbad hgood hcl hc
            go_enter Try.func5, Try.ntmps5
            go_wp2_with (first
              | (go_at_call 11; go_must (refine (new_at W W (Below.refl _ W) _ ds HD.out (by omega)).mono ?_; rintro e w1 ⟨b, rfl, ft, hA, hn⟩))
              | (go_at_call 16; go_must (first
                | (refine (key_any w1 b ft ⟨ds, []⟩ hA.rep (by simp)).mono ?_; rw [KK.out, KS1.out]; rintro e w2 ⟨rfl, hl⟩; obtain ⟨ft2, hA2, _, _⟩ := hA.left hl; clear hA hl)
                | (refine (key_any w2 b ft2 S1 hA2.rep (by omega)).mono ?_; rw [KJ.out, KS2.out]; rintro e w3 ⟨rfl, hl⟩; obtain ⟨ft3, hA3, _, _⟩ := hA2.left hl; clear hA2 hl)))
              | (go_at_call 17; go_must (refine (seal_any w3 b ft3 S2 hA3.rep (by omega) k uk _ bd (hA3.rd HB.out) _ pl (hA3.rd HP.out) (by omega)).mono ?_; rw [KSEAL.out]; rintro e w4 ⟨v4, rfl, hl⟩; obtain ⟨ft4, hA4, rd4, out4, of4, tn4, own4⟩ := hA3.leftB hl; clear hA3 hl; obtain ⟨a4, c4, rfl⟩ := rd4.len))
              | (go_at_call 18; go_must (refine (HC.out w4).mono ?_; rintro e w5 ⟨rfl, hb5⟩; have hA5 := hA4.below hb5; have rd5 := rd4.below hb5; clear hA4 rd4))
              | (go_at_call 10; go_must (refine (alive_any _).mono ?_; rintro e w12 ⟨rfl, hb12⟩)))
            go_ret
            exact ⟨rfl, bnext hA5.bel hb12⟩
          · obtain ⟨S3, bx, kseal, hlen, hox, n3, ko1, ko2, ko3, ko4, hL⟩ := hgood hc
            have hz2 : zerosOf pl ≤ 1024 := by
              have := (sizeI_le (cls pl.length)).2
              unfold zerosOf
              omega
            have hc0 : 0 ≤ cls pl.length := by omega
            by_cases e : bd = ot
            · rw [if_pos e] at ko3
              exact seals_A ad ab ao ap cd cb co cp ds bd ot pl at0 by0 W k j S1 S2 S3 bx pl _ HD HB HO HP h1 h2 h3 h4 hk hS1 hj hS2 uk n1 n2 kseal ko1 ko2 ko3 hL HC hc0 (decide_eq_true e) hby0 (by omega) hox ko4
            · rw [if_neg e] at ko3
              exact seals_B ad ab ao ap cd cb co cp ds bd ot pl at0 by0 W k j S1 S2 S3 bx [] _ HD HB HO HP h1 h2 h3 h4 hk hS1 hj hS2 uk n1 n2 kseal ko1 ko2 ko3 hL HC hc0 (decide_eq_false e) hby0 (by omega) hox ko4
        · go_enter Try.func5, Try.ntmps5
          go_wp2_with (go_at_call 10; go_must (refine (alive_any _).mono ?_; rintro e w12 ⟨rfl, hb12⟩))
          go_ret
          exact ⟨rfl, hb12⟩
      · go_enter Try.func5, Try.ntmps5
        go_wp2_with (go_at_call 10; go_must (refine (alive_any _).mono ?_; rintro e w12 ⟨rfl, hb12⟩))
        go_ret
        exact ⟨rfl, hb12⟩
    · go_enter Try.func5, Try.ntmps5
      go_wp2_with (go_at_call 10; go_must (refine (alive_any _).mono ?_; rintro e w12 ⟨rfl, hb12⟩))
      go_ret
      exact ⟨rfl, hb12⟩
  · go_enter Try.func5, Try.ntmps5
    go_wp2_with (go_at_call 10; go_must (refine (alive_any _).mono ?_; rintro e w12 ⟨rfl, hb12⟩))
    go_ret
    exact ⟨rfl, hb12⟩
end Go.Proofs.Ytcacioogklgahaa
