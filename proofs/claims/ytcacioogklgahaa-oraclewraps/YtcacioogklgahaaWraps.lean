/-
  A key that is wrapped is told to whom it was wrapped for alone, and what a nil oracle says.
-/
import Derived.Test.YtcacioogklgahaaAlive3
import Derived.Test.YtcacioogklgahaaPure3
namespace Go.Proofs.Ytcacioogklgahaa
set_option linter.unusedVariables false
set_option synthInstance.maxSize 20000
open Classical
open Go.RowKit Go.Maps

set_option maxHeartbeats 4000000 in
set_option maxRecDepth 20000 in
theorem wraps_walk (dv v : Value) (ds lb : List Int) (W : World) (hd : RdU W dv ds) (hv : Rd W v lb) :
    Calls Try.prog 8 #[dv, v] W fun e w' => e = .returned (.bool true) ∧ Below W.heap.size W w' := by
  have HD : Hid (RdU W dv ds) := hd
  have HV : Hid (Rd W v lb) := hv
  have hdd := hd.1
  have hob := hv.oct
  obtain ⟨_, ad, cd, rfl, hd1, hd2, _⟩ := hd
  obtain ⟨_, av, cv, rfl, hv1, hv2, _⟩ := hv
  unfold maxLen at hd2 hv2
  by_cases h1 : ds.length ≤ 100
  · by_cases h2 : lb.length ≤ 100
    · obtain ⟨k, s, p, t, q, f, S1, S2, S3, S4, m, hh, hk, hS1, hs, hp, hS2, ht, hq, hS3, kw, ku, kv, kx, hbx, ki, kj, uk, us, up, ut, n1, n2, n3, n4⟩ := wraps_facts ds hdd hob
      have KK : Hid (St.fresh ⟨ds, []⟩ = k) := hk
      have KS1 : Hid (St.put ⟨ds, []⟩ .key = S1) := hS1
      have KS : Hid (S1.fresh = s) := hs
      have KP : Hid ((S1.put .secret).fresh = p) := hp
      have KS2 : Hid ((S1.put .secret).put (.pub s) = S2) := hS2
      have KT : Hid (S2.fresh = t) := ht
      have KQ : Hid ((S2.put .secret).fresh = q) := hq
      have KS3 : Hid ((S2.put .secret).put (.pub t) = S3) := hS3
      have KW : Hid (S3.wrap p k = ((boxOf f 8, 0), S4)) := kw
      have KU : Hid (S4.unwrap s (boxOf f 8) = (k, 0)) := ku
      have KV : Hid (S4.unwrap t (boxOf f 8) = (0, 11)) := kv
      have KX : Hid (S4.unwrap s lb = (m, hh)) := kx
      have KI : Hid (S4.wrap s k = (([], 20), S4)) := ki
      have KJ : Hid (S4.wrap p s = (([], 11), S4)) := kj
      clear hk hS1 hs hp hS2 ht hq hS3 kw ku kv kx ki kj
      by_cases h4 : hh = 4
      · subst h4
        clear hbx
        go_enter Try.func8, Try.ntmps8
        go_wp2_with (first
          | (go_at_call 11; go_must (refine (new_at W W (Below.refl _ W) _ ds HD.out (by omega)).mono ?_; rintro e w1 ⟨b, rfl, ft, hA, hn⟩))
          | (go_at_call 16; go_must (refine (key_any w1 b ft ⟨ds, []⟩ hA.rep (by simp)).mono ?_; rw [KK.out, KS1.out]; rintro e w2 ⟨rfl, hl⟩; obtain ⟨ft2, hA2, _, _⟩ := hA.left hl; clear hA hl))
          | (go_at_call 21; go_must (first
            | (refine (pair_any w2 b ft2 S1 hA2.rep (by omega)).mono ?_; rw [KP.out, KS.out, KS2.out]; rintro e w3 ⟨rfl, hl⟩; obtain ⟨ft3, hA3, _, _⟩ := hA2.left hl; clear hA2 hl)
            | (refine (pair_any w3 b ft3 S2 hA3.rep (by omega)).mono ?_; rw [KQ.out, KT.out, KS3.out]; rintro e w4 ⟨rfl, hl⟩; obtain ⟨ft4, hA4, _, _⟩ := hA3.left hl; clear hA3 hl)))
          | (go_at_call 24; go_must (first
            | (refine (wrap_any w4 b ft4 S3 hA4.rep (by omega) p up k uk).mono ?_; rw [KW.out]; rintro e w5 ⟨v5, rfl, hl⟩; obtain ⟨ft5, hA5, rd5, out5, _, _, own5⟩ := hA4.leftB hl; clear hA4 hl)
            | (refine (wrap_any w8 b ft5 S4 hA8.rep (by omega) s us k uk).mono ?_; rw [KI.out]; rintro e w9 ⟨v9, rfl, hl⟩; obtain ⟨ft9, hA9, rd9, _, of9, tn9, _⟩ := hA8.leftB hl; have rdb9 := rd8.turn tn9 out5; have out9 := out5.of of9 own8; have own9 : ∀ j, v5.ownBlock = some j → j < w9.heap.size := fun j hj => Nat.lt_of_lt_of_le (own8 j hj) tn9.size; clear hA8 hl rd8)
            | (refine (wrap_any w9 b ft9 S4 hA9.rep (by omega) p up s us).mono ?_; rw [KJ.out]; rintro e w10 ⟨v10, rfl, hl⟩; obtain ⟨ft10, hA10, rd10, _, of10, tn10, _⟩ := hA9.leftB hl; have rdb10 := rdb9.turn tn10 out9; clear hA9 hl rdb9)))
          | (go_at_call 25; go_must (first
            | (refine (unwrap_any w5 b ft5 S4 hA5.rep s v5 (boxOf f 8) rd5).mono ?_; rw [KU.out]; rintro e w6 ⟨rfl, hb⟩; have hA6 := hA5.below hb; have rd6 := rd5.below hb; have own6 : ∀ j, v5.ownBlock = some j → j < w6.heap.size := fun j hj => Nat.lt_of_lt_of_le (own5 j hj).2 hb.size; clear hA5 rd5 hb)
            | (refine (unwrap_any w6 b ft5 S4 hA6.rep t v5 (boxOf f 8) rd6).mono ?_; rw [KV.out]; rintro e w7 ⟨rfl, hb⟩; have hA7 := hA6.below hb; have rd7 := rd6.below hb; have own7 : ∀ j, v5.ownBlock = some j → j < w7.heap.size := fun j hj => Nat.lt_of_lt_of_le (own6 j hj) hb.size; clear hA6 rd6 hb)
            | (refine (unwrap_any w7 b ft5 S4 hA7.rep s _ lb (hA7.rd HV.out)).mono ?_; rw [KX.out]; rintro e w8 ⟨rfl, hb⟩; have hA8 := hA7.below hb; have rd8 := rd7.below hb; have own8 : ∀ j, v5.ownBlock = some j → j < w8.heap.size := fun j hj => Nat.lt_of_lt_of_le (own7 j hj) hb.size; clear hA7 rd7 hb)))
          | (go_at_call 22; go_must (refine (sign_nil w10 1 _).mono ?_; rintro e w11 ⟨rfl, hw11⟩; rw [hw11]; clear hw11 w11))
          | (go_at_call 19; go_must (refine (open_nil w10 1 _ _).mono ?_; rintro e w12 ⟨rfl, hw12⟩; rw [hw12]; clear hw12 w12))
          | (go_at_call 14; go_must (refine (hash_nil _ _).mono ?_; rintro e w14 ⟨rfl, hw14⟩; rw [hw14]; clear hw14 w14))
          | (go_at_call 13; go_must (refine (used_nil _).mono ?_; rintro e w15 ⟨rfl, hw15⟩; rw [hw15]; clear hw15 w15))
          | (go_at_call 10; go_must (refine (alive_any _).mono ?_; rintro e w16 ⟨rfl, hb16⟩)))
        go_ret
        exact ⟨rfl, bnext hA10.bel hb16⟩
      · have HBX : Hid (lb = boxOf f 8) := hbx.resolve_left h4
        have h4' : (hh == 4) = false := by simpa using h4
        clear hbx h4
        go_enter Try.func8, Try.ntmps8
        go_wp2_with (first
          | (go_at_call 11; go_must (refine (new_at W W (Below.refl _ W) _ ds HD.out (by omega)).mono ?_; rintro e w1 ⟨b, rfl, ft, hA, hn⟩))
          | (go_at_call 16; go_must (refine (key_any w1 b ft ⟨ds, []⟩ hA.rep (by simp)).mono ?_; rw [KK.out, KS1.out]; rintro e w2 ⟨rfl, hl⟩; obtain ⟨ft2, hA2, _, _⟩ := hA.left hl; clear hA hl))
          | (go_at_call 21; go_must (first
            | (refine (pair_any w2 b ft2 S1 hA2.rep (by omega)).mono ?_; rw [KP.out, KS.out, KS2.out]; rintro e w3 ⟨rfl, hl⟩; obtain ⟨ft3, hA3, _, _⟩ := hA2.left hl; clear hA2 hl)
            | (refine (pair_any w3 b ft3 S2 hA3.rep (by omega)).mono ?_; rw [KQ.out, KT.out, KS3.out]; rintro e w4 ⟨rfl, hl⟩; obtain ⟨ft4, hA4, _, _⟩ := hA3.left hl; clear hA3 hl)))
          | (go_at_call 24; go_must (first
            | (refine (wrap_any w4 b ft4 S3 hA4.rep (by omega) p up k uk).mono ?_; rw [KW.out]; rintro e w5 ⟨v5, rfl, hl⟩; obtain ⟨ft5, hA5, rd5, out5, _, _, own5⟩ := hA4.leftB hl; clear hA4 hl)
            | (refine (wrap_any w8 b ft5 S4 hA8.rep (by omega) s us k uk).mono ?_; rw [KI.out]; rintro e w9 ⟨v9, rfl, hl⟩; obtain ⟨ft9, hA9, rd9, _, of9, tn9, _⟩ := hA8.leftB hl; have rdb9 := rd8.turn tn9 out5; have out9 := out5.of of9 own8; have own9 : ∀ j, v5.ownBlock = some j → j < w9.heap.size := fun j hj => Nat.lt_of_lt_of_le (own8 j hj) tn9.size; clear hA8 hl rd8)
            | (refine (wrap_any w9 b ft9 S4 hA9.rep (by omega) p up s us).mono ?_; rw [KJ.out]; rintro e w10 ⟨v10, rfl, hl⟩; obtain ⟨ft10, hA10, rd10, _, of10, tn10, _⟩ := hA9.leftB hl; have rdb10 := rdb9.turn tn10 out9; clear hA9 hl rdb9)))
          | (go_at_call 25; go_must (first
            | (refine (unwrap_any w5 b ft5 S4 hA5.rep s v5 (boxOf f 8) rd5).mono ?_; rw [KU.out]; rintro e w6 ⟨rfl, hb⟩; have hA6 := hA5.below hb; have rd6 := rd5.below hb; have own6 : ∀ j, v5.ownBlock = some j → j < w6.heap.size := fun j hj => Nat.lt_of_lt_of_le (own5 j hj).2 hb.size; clear hA5 rd5 hb)
            | (refine (unwrap_any w6 b ft5 S4 hA6.rep t v5 (boxOf f 8) rd6).mono ?_; rw [KV.out]; rintro e w7 ⟨rfl, hb⟩; have hA7 := hA6.below hb; have rd7 := rd6.below hb; have own7 : ∀ j, v5.ownBlock = some j → j < w7.heap.size := fun j hj => Nat.lt_of_lt_of_le (own6 j hj) hb.size; clear hA6 rd6 hb)
            | (refine (unwrap_any w7 b ft5 S4 hA7.rep s _ lb (hA7.rd HV.out)).mono ?_; rw [KX.out]; rintro e w8 ⟨rfl, hb⟩; have hA8 := hA7.below hb; have rd8 := rd7.below hb; have own8 : ∀ j, v5.ownBlock = some j → j < w8.heap.size := fun j hj => Nat.lt_of_lt_of_le (own7 j hj) hb.size; clear hA7 rd7 hb)))
          | (go_at_call 22; go_must (refine (sign_nil w10 1 _).mono ?_; rintro e w11 ⟨rfl, hw11⟩; rw [hw11]; clear hw11 w11))
          | (go_at_call 19; go_must (refine (open_nil w10 1 _ _).mono ?_; rintro e w12 ⟨rfl, hw12⟩; rw [hw12]; clear hw12 w12))
          | (go_at_call 15; go_must (refine (same_any _ _ lb (boxOf f 8) w10 (hA10.rd HV.out) rdb10).mono ?_; rintro e w13 ⟨rfl, hb13⟩; rw [decide_eq_true HBX.out]))
          | (go_at_call 14; go_must (refine (hash_nil _ _).mono ?_; rintro e w14 ⟨rfl, hw14⟩; rw [hw14]; clear hw14 w14))
          | (go_at_call 13; go_must (refine (used_nil _).mono ?_; rintro e w15 ⟨rfl, hw15⟩; rw [hw15]; clear hw15 w15))
          | (go_at_call 10; go_must (refine (alive_any _).mono ?_; rintro e w16 ⟨rfl, hb16⟩)))
        go_ret
        exact ⟨rfl, bnext (bnext hA10.bel hb13) hb16⟩
    · go_enter Try.func8, Try.ntmps8
      go_wp2_with (go_at_call 10; go_must (refine (alive_any W).mono ?_; rintro e w6 ⟨rfl, hb6⟩))
      go_ret
      exact ⟨rfl, hb6⟩
  · go_enter Try.func8, Try.ntmps8
    go_wp2_with (go_at_call 10; go_must (refine (alive_any W).mono ?_; rintro e w6 ⟨rfl, hb6⟩))
    go_ret
    exact ⟨rfl, hb6⟩
end Go.Proofs.Ytcacioogklgahaa
