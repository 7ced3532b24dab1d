/-
  Two texts have one hash just if they are the same.
-/
import Derived.Test.YtcacioogklgahaaAlive3
import Derived.Test.YtcacioogklgahaaPure
namespace Go.Proofs.Ytcacioogklgahaa
set_option linter.unusedVariables false
set_option synthInstance.maxSize 20000
open Classical
open Go.RowKit Go.Maps

set_option maxHeartbeats 2000000 in
set_option maxRecDepth 20000 in
theorem hashes_walk (dv v u : Value) (ds la lb : List Int) (W : World) (hd : RdU W dv ds) (hv : Rd W v la) (hu : Rd W u lb) :
    Calls Try.prog 4 #[dv, v, u] W fun e w' => e = .returned (.bool true) ∧ Below W.heap.size W w' := by
  have HD : Hid (RdU W dv ds) := hd
  have HV : Hid (Rd W v la) := hv
  have HU : Hid (Rd W u lb) := hu
  have hdd := hd.1
  have hoa := hv.oct
  have hob := hu.oct
  obtain ⟨_, ad, cd, rfl, hd1, hd2, _⟩ := hd
  obtain ⟨_, av, cv, rfl, hv1, hv2, _⟩ := hv
  obtain ⟨_, au, cu, rfl, hu1, hu2, _⟩ := hu
  unfold maxLen at hd2 hv2 hu2
  by_cases h1 : ds.length ≤ 100
  · by_cases h2 : la.length ≤ 300
    · by_cases h3 : lb.length ≤ 300
      · have hg0 := good0 hdd
        generalize hS0 : (⟨ds, []⟩ : St) = S0 at hg0
        have hl0 : S0.rows.length = 0 := by rw [← hS0]; rfl
        have hl1 := get_len S0 (.hash la)
        have hg1 := get_good hg0 (by omega) (x := .hash la) hoa
        have hn1 := get_ne hg0 (by omega) (x := .hash la) hoa
        have ho1 := get_of S0 (.hash la)
        generalize hS1 : (S0.get (.hash la)).2 = S1 at hl1 hg1 ho1
        generalize hx : (S0.get (.hash la)).1 = x at hn1 ho1
        have hl2 := get_len S1 (.hash lb)
        have hg2 := get_good hg1 (by omega) (x := .hash lb) hob
        have hn2 := get_ne hg1 (by omega) (x := .hash lb) hob
        have ho2 := get_of S1 (.hash lb)
        have ho12 := get_keeps (x := .hash lb) ho1
        generalize hS2 : (S1.get (.hash lb)).2 = S2 at hl2 hg2 ho2 ho12
        generalize hy : (S1.get (.hash lb)).1 = y at hn2 ho2
        have hxy : (x = y) ↔ la = lb := ⟨fun e => by
          subst e
          have := of_inj hg2 ho12 ho2
          rwa [What.hash.injEq] at this, fun e => by subst e; exact Option.some.inj (ho12.symm.trans ho2)⟩
        have h3' := get_some ho12
        have K0 : Hid ((⟨ds, []⟩ : St) = S0) := hS0
        have K1 : Hid (S0.get (.hash la) = (x, S1)) := Prod.ext hx hS1
        have K2 : Hid (S1.get (.hash lb) = (y, S2)) := Prod.ext hy hS2
        have K3 : Hid (S2.get (.hash la) = (x, S2)) := h3'
        have hx0 : (x != 0) = true := by simpa using hn1.1
        have hy0 : (y != 0) = true := by simpa using hn2.1
        have hxy2 : (x == y) = decide (la = lb) := by
          rw [Bool.eq_iff_iff]
          simp [hxy]
        have HXY : Hid ((x == y) = decide (la = lb)) := hxy2
        clear hS0 hS1 hS2 hx hy h3' ho1 ho2 ho12 hg0 hg1 hg2 hxy hxy2
        go_enter Try.func4, Try.ntmps4
        go_wp2_with (first
          | (go_at_call 11; go_must (refine (new_at W W (Below.refl _ W) _ ds HD.out (by omega)).mono ?_; rintro e w1 ⟨b, rfl, ft, hA, hn⟩; rw [K0.out] at hA))
          | (go_at_call 14; go_must (first
            | (refine (hash_all w1 b ft S0 hA.rep (by omega) _ la (hA.rds HV.out) (by omega)).mono ?_; rw [K1.out]; rintro e w2 ⟨rfl, hl⟩; obtain ⟨ft2, hA2, _, _⟩ := hA.left hl; clear hA hl)
            | (refine (hash_all w2 b ft2 S1 hA2.rep (by omega) _ lb (hA2.rds HU.out) (by omega)).mono ?_; rw [K2.out]; rintro e w3 ⟨rfl, hl⟩; obtain ⟨ft3, hA3, _, _⟩ := hA2.left hl; clear hA2 hl)
            | (refine (hash_all w4 b ft3 S2 hA4.rep (by omega) _ la (hA4.rds HV.out) (by omega)).mono ?_; rw [K3.out]; rintro e w5 ⟨rfl, hl⟩; obtain ⟨ft5, hA5, _, _⟩ := hA4.left hl; clear hA4 hl)))
          | (go_at_call 15; go_must (refine (same_any _ _ la lb w3 (hA3.rd HV.out) (hA3.rd HU.out)).mono ?_; rintro e w4 ⟨rfl, hb4⟩; have hA4 := hA3.below hb4; clear hA3; rw [← HXY.out]))
          | (go_at_call 10; go_must (refine (alive_any w5).mono ?_; rintro e w6 ⟨rfl, hb6⟩)))
        go_ret
        exact ⟨rfl, bnext hA5.bel hb6⟩
      · go_enter Try.func4, Try.ntmps4
        go_wp2_with (go_at_call 10; go_must (refine (alive_any W).mono ?_; rintro e w6 ⟨rfl, hb6⟩))
        go_ret
        exact ⟨rfl, hb6⟩
    · go_enter Try.func4, Try.ntmps4
      go_wp2_with (go_at_call 10; go_must (refine (alive_any W).mono ?_; rintro e w6 ⟨rfl, hb6⟩))
      go_ret
      exact ⟨rfl, hb6⟩
  · go_enter Try.func4, Try.ntmps4
    go_wp2_with (go_at_call 10; go_must (refine (alive_any W).mono ?_; rintro e w6 ⟨rfl, hb6⟩))
    go_ret
    exact ⟨rfl, hb6⟩
end Go.Proofs.Ytcacioogklgahaa
