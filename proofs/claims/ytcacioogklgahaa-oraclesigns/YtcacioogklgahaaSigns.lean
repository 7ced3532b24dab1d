/-
  A signature holds for just those bytes, and that signer, and is the same again.
-/
import Derived.Test.YtcacioogklgahaaAlive3
import Derived.Test.YtcacioogklgahaaPure2
namespace Go.Proofs.Ytcacioogklgahaa
set_option linter.unusedVariables false
set_option synthInstance.maxSize 20000
open Classical
open Go.RowKit Go.Maps

theorem verifyNot (q : Bool) (x g : Int) (hq : q = decide (x = g)) : (decide (g = x) || !q) = true := by
  subst hq
  by_cases h : x = g
  · subst h; simp
  · simp [h]

set_option maxHeartbeats 4000000 in
set_option maxRecDepth 20000 in
theorem signs_walk (dv v u : Value) (ds la lb : List Int) (gs : Int) (W : World) (hd : RdU W dv ds) (hv : Rd W v la) (hu : Rd W u lb) :
    Calls Try.prog 7 #[dv, v, u, .int .u64 gs] W fun e w' => e = .returned (.bool true) ∧ Below W.heap.size W w' := by
  have HD : Hid (RdU W dv ds) := hd
  have HV : Hid (Rd W v la) := hv
  have HU : Hid (Rd W u lb) := hu
  have hdd := hd.1
  have hoa := hv.oct
  have hob := hu.oct
  obtain ⟨_, ad, cd, rfl, hd1, hd2, _⟩ := hd
  obtain ⟨_, av, cv, rfl, hv1, hv2, _⟩ := hv
  obtain ⟨_, au, cu, rfl, hu1, hu2, _⟩ := hu
  unfold maxLen at hd2 hv2 hu2
  by_cases h1 : ds.length ≤ 100
  · by_cases h2 : la.length ≤ 300
    · by_cases h3 : lb.length ≤ 300
      · have hg0 := good0 hdd
        generalize hS0 : (⟨ds, []⟩ : St) = S0 at hg0
        have hl0 : S0.rows.length = 0 := by rw [← hS0]; rfl
        obtain ⟨s, p, t, q, x, P1, P2, Q, hs, hp, hP1, ht, hq, hP2, k1, k2, k3, v1, v2, v3, v4, hst, us, up, uq, n1, n2, n3⟩ := signs_facts hg0 hl0 hoa hob
        have K0 : Hid ((⟨ds, []⟩ : St) = S0) := hS0
        have KS : Hid (S0.fresh = s) := hs
        have KP : Hid ((S0.put .secret).fresh = p) := hp
        have KP1 : Hid ((S0.put .secret).put (.pub s) = P1) := hP1
        have KT : Hid (P1.fresh = t) := ht
        have KQ : Hid ((P1.put .secret).fresh = q) := hq
        have KP2 : Hid ((P1.put .secret).put (.pub t) = P2) := hP2
        have K1 : Hid (P2.sign s la = ((x, 0), Q)) := k1
        have K2 : Hid (Q.sign s la = ((x, 0), Q)) := k2
        have K3 : Hid (Q.sign p la = ((0, 11), Q)) := k3
        have V1 : Hid (Q.verify p la x = true) := v1
        have V2 : Hid (Q.verify q la x = false) := v2
        have V3 : Hid (Q.verify p lb x = decide (la = lb)) := v3
        have V4 : Hid (Q.verify p la gs = decide (x = gs)) := v4 gs
        have hst' : (s != t) = true := by simpa using hst
        clear hS0 hs hp hP1 ht hq hP2 k1 k2 k3 v1 v2 v3 v4 hst hg0
        have tk1 : Hid True := trivial
        by_cases hgx : gs = x
        · subst hgx
          have W5 := V1
          go_enter Try.func7, Try.ntmps7
          go_wp2_with (first
            | (go_at_call 11; go_must (refine (new_at W W (Below.refl _ W) _ ds HD.out (by omega)).mono ?_; rintro e w1 ⟨b, rfl, ft, hA, hn⟩; rw [K0.out] at hA))
            | (go_at_call 21; go_must (first
              | (refine (pair_any w1 b ft S0 hA.rep (by omega)).mono ?_; rw [KP.out, KS.out, KP1.out]; rintro e w2 ⟨rfl, hl⟩; obtain ⟨ft2, hA2, _, _⟩ := hA.left hl; clear hA hl)
              | (refine (pair_any w2 b ft2 P1 hA2.rep (by omega)).mono ?_; rw [KQ.out, KT.out, KP2.out]; rintro e w3 ⟨rfl, hl⟩; obtain ⟨ft3, hA3, _, _⟩ := hA2.left hl; clear hA2 hl)))
            | (go_at_call 22; go_must (first
              | (refine (sign_any w3 b ft3 P2 hA3.rep (by omega) s us _ la (hA3.rd HV.out) (by omega)).mono ?_; rw [K1.out]; rintro e w4 ⟨rfl, hl⟩; obtain ⟨ft4, hA4, _, _⟩ := hA3.left hl; clear hA3 hl)
              | (refine (sign_any w4 b ft4 Q hA4.rep (by omega) s us _ la (hA4.rd HV.out) (by omega)).mono ?_; rw [K2.out]; rintro e w5 ⟨rfl, hl⟩; obtain ⟨ft5, hA5, _, _⟩ := hA4.left hl; clear hA4 hl)
              | (refine (sign_any w5 b ft5 Q hA5.rep (by omega) p up _ la (hA5.rd HV.out) (by omega)).mono ?_; rw [K3.out]; rintro e w6 ⟨rfl, hl⟩; obtain ⟨ft6, hA6, _, _⟩ := hA5.left hl; clear hA5 hl)))
            | (go_at_call 23; go_must (first
              | (refine (verify_any w6 b ft6 Q hA6.rep p up _ la (hA6.rd HV.out) (by omega) gs).mono ?_; rw [V1.out]; rintro e w7 ⟨rfl, hb⟩; have hA7 := hA6.below hb; clear hA6 hb)
              | (refine (verify_any w7 b ft6 Q hA7.rep q uq _ la (hA7.rd HV.out) (by omega) gs).mono ?_; rw [V2.out]; rintro e w8 ⟨rfl, hb⟩; have hA8 := hA7.below hb; clear hA7 hb)
              | (refine (verify_any w8 b ft6 Q hA8.rep p up _ lb (hA8.rd HU.out) (by omega) gs).mono ?_; rw [V3.out]; rintro e w9 ⟨rfl, hb⟩; have hA9 := hA8.below hb; clear hA8 hb)))
            | (go_at_call 15; go_must (refine (same_any _ _ la lb w9 (hA9.rd HV.out) (hA9.rd HU.out)).mono ?_; rintro e w10 ⟨rfl, hb⟩; have hA10 := hA9.below hb; clear hA9 hb))
            | (go_at_call 10; go_must (refine (alive_any _).mono ?_; rintro e w12 ⟨rfl, hb12⟩)))
          go_ret
          exact ⟨rfl, bnext hA10.bel hb12⟩
        · have hgx' : (gs == x) = false := by simpa using hgx
          have hxg : decide (x = gs) = false := by simpa using fun e => hgx (Eq.symm e)
          rw [hxg] at V4
          clear hgx hxg
          go_enter Try.func7, Try.ntmps7
          go_wp2_with (first
            | (go_at_call 11; go_must (refine (new_at W W (Below.refl _ W) _ ds HD.out (by omega)).mono ?_; rintro e w1 ⟨b, rfl, ft, hA, hn⟩; rw [K0.out] at hA))
            | (go_at_call 21; go_must (first
              | (refine (pair_any w1 b ft S0 hA.rep (by omega)).mono ?_; rw [KP.out, KS.out, KP1.out]; rintro e w2 ⟨rfl, hl⟩; obtain ⟨ft2, hA2, _, _⟩ := hA.left hl; clear hA hl)
              | (refine (pair_any w2 b ft2 P1 hA2.rep (by omega)).mono ?_; rw [KQ.out, KT.out, KP2.out]; rintro e w3 ⟨rfl, hl⟩; obtain ⟨ft3, hA3, _, _⟩ := hA2.left hl; clear hA2 hl)))
            | (go_at_call 22; go_must (first
              | (refine (sign_any w3 b ft3 P2 hA3.rep (by omega) s us _ la (hA3.rd HV.out) (by omega)).mono ?_; rw [K1.out]; rintro e w4 ⟨rfl, hl⟩; obtain ⟨ft4, hA4, _, _⟩ := hA3.left hl; clear hA3 hl)
              | (refine (sign_any w4 b ft4 Q hA4.rep (by omega) s us _ la (hA4.rd HV.out) (by omega)).mono ?_; rw [K2.out]; rintro e w5 ⟨rfl, hl⟩; obtain ⟨ft5, hA5, _, _⟩ := hA4.left hl; clear hA4 hl)
              | (refine (sign_any w5 b ft5 Q hA5.rep (by omega) p up _ la (hA5.rd HV.out) (by omega)).mono ?_; rw [K3.out]; rintro e w6 ⟨rfl, hl⟩; obtain ⟨ft6, hA6, _, _⟩ := hA5.left hl; clear hA5 hl)))
            | (go_at_call 23; go_must (first
              | (refine (verify_any w6 b ft6 Q hA6.rep p up _ la (hA6.rd HV.out) (by omega) x).mono ?_; rw [V1.out]; rintro e w7 ⟨rfl, hb⟩; have hA7 := hA6.below hb; clear hA6 hb)
              | (refine (verify_any w7 b ft6 Q hA7.rep q uq _ la (hA7.rd HV.out) (by omega) x).mono ?_; rw [V2.out]; rintro e w8 ⟨rfl, hb⟩; have hA8 := hA7.below hb; clear hA7 hb)
              | (refine (verify_any w8 b ft6 Q hA8.rep p up _ lb (hA8.rd HU.out) (by omega) x).mono ?_; rw [V3.out]; rintro e w9 ⟨rfl, hb⟩; have hA9 := hA8.below hb; clear hA8 hb)
              | (refine (verify_any w10 b ft6 Q hA10.rep p up _ la (hA10.rd HV.out) (by omega) gs).mono ?_; rw [V4.out]; rintro e w11 ⟨rfl, hb⟩; have hA11 := hA10.below hb; clear hA10 hb)))
            | (go_at_call 15; go_must (refine (same_any _ _ la lb w9 (hA9.rd HV.out) (hA9.rd HU.out)).mono ?_; rintro e w10 ⟨rfl, hb⟩; have hA10 := hA9.below hb; clear hA9 hb))
            | (go_at_call 10; go_must (refine (alive_any _).mono ?_; rintro e w12 ⟨rfl, hb12⟩)))
          go_ret
          exact ⟨rfl, bnext hA11.bel hb12⟩
      · go_enter Try.func7, Try.ntmps7
        go_wp2_with (go_at_call 10; go_must (refine (alive_any W).mono ?_; rintro e w6 ⟨rfl, hb6⟩))
        go_ret
        exact ⟨rfl, hb6⟩
    · go_enter Try.func7, Try.ntmps7
      go_wp2_with (go_at_call 10; go_must (refine (alive_any W).mono ?_; rintro e w6 ⟨rfl, hb6⟩))
      go_ret
      exact ⟨rfl, hb6⟩
  · go_enter Try.func7, Try.ntmps7
    go_wp2_with (go_at_call 10; go_must (refine (alive_any W).mono ?_; rintro e w6 ⟨rfl, hb6⟩))
    go_ret
    exact ⟨rfl, hb6⟩
end Go.Proofs.Ytcacioogklgahaa
