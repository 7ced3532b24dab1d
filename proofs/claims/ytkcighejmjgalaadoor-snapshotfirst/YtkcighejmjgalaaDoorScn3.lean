/-
  Scan of the program.
-/
import Derived.Test.YtkcighejmjgalaaDoorScn2
namespace Go.Proofs.YtkcighejmjgalaaDoor
set_option linter.unusedVariables false
set_option linter.unusedSimpArgs false
set_option synthInstance.maxSize 20000
set_option maxHeartbeats 2000000
set_option maxRecDepth 20000
open Go.RowKit Go.Maps

/-- Records that were found, up to t. -/
structure Fnd (w : World) (L : List (List Int)) (gen : Int) (wr : World) (v : Value) (rs : List VB) (t : Nat) : Prop where
  rcs : RecAt w.heap.size wr v rs
  el : ∀ q ∈ rs, ∀ k, q.1.ownBlock = some k → w.heap.size ≤ k
  pos : At L gen 0 (LL rs) t
  bel : Below w.heap.size w wr
theorem fnd_zero (w : World) (L : List (List Int)) (gen : Int) : Fnd w L gen w nilv [] 0 := ⟨recAt_nil _ _, (fun q hq => by cases hq), At.zero _ _ _, Below.refl _ _⟩
theorem Fnd.len {w : World} {L : List (List Int)} {gen : Int} {wr : World} {v : Value} {rs : List VB} {t : Nat} (h : Fnd w L gen wr v rs t) : t ≤ L.length ∧ rs.length ≤ t := by
  have h1 := h.pos.1
  have h2 := h.pos.2.1
  rw [LL_len] at h2
  exact ⟨h1, h2⟩
theorem Fnd.out {w : World} {L : List (List Int)} {gen : Int} {wr wz : World} {v : Value} {rs : List VB} {t : Nat} (h : Fnd w L gen wr v rs t) (hs : (stand (L.drop t) gen (rs.length : Nat)).2 = 0) (hb : Below wr.heap.size wr wz) : scan L gen = (LL rs, t) ∧ OutL w.heap.size wz v (LL rs) ∧ Below w.heap.size w wz := by
  refine ⟨?_, ⟨rs, (h.rcs.below hb).rl, rfl, ⟨h.rcs.new, h.el⟩⟩, bnext h.bel hb⟩
  have := h.pos.stop (by rw [LL_len, Nat.zero_add]; exact hs)
  exact this
theorem Fnd.more {w : World} {L : List (List Int)} {gen : Int} {wr w1 w3 : World} {v v' ev : Value} {rs : List VB} {t : Nat} (h : Fnd w L gen wr v rs t) (hs : (stand (L.drop t) gen (rs.length : Nat)).2 ≠ 0) (hb : Below wr.heap.size wr w1) (he : OutR wr.heap.size w1 ev (stand (L.drop t) gen (rs.length : Nat)).1)
    (k1 : w3.ownsRow 0 30 1 v' (rs ++ [(ev, (stand (L.drop t) gen (rs.length : Nat)).1)]).length (flat lc (rs ++ [(ev, (stand (L.drop t) gen (rs.length : Nat)).1)]))) (k2 : (w1.alloc (.cells #[ev] 30)).grownBy w3 v.ownBlock) (k3 : ∀ j, v'.ownBlock = some j → v.ownBlock = some j ∨ (w1.alloc (.cells #[ev] 30)).heap.size ≤ j) :
    Fnd w L gen w3 v' (rs ++ [(ev, (stand (L.drop t) gen (rs.length : Nat)).1)]) (t + (stand (L.drop t) gen (rs.length : Nat)).2) := by
  have hsz := hb.size
  have hb0 := h.bel.size
  obtain ⟨r1, r2⟩ := (h.rcs.below hb).add (by omega) he.1 (fun _ j hj e => by
    have h1 := he.2 j hj
    have h2 := (h.rcs.own.lt j e).2
    omega) k1 k2 k3
  refine ⟨r1, fun q hq k hk => ?_, ?_, (h.rcs.below hb).grown (bnext h.bel hb) (Nat.le_refl _) r2⟩
  · rcases List.mem_append.1 hq with hq | hq
    · exact h.el q hq k hk
    · simp at hq
      subst hq
      have := he.2 k hk
      omega
  · have := h.pos.more (b := (stand (L.drop t) gen (rs.length : Nat)).1) (n := (stand (L.drop t) gen (rs.length : Nat)).2) (by rw [LL_len, Nat.zero_add]; exact stand_some hs)
    simpa [LL] using this

theorem scan17 {w : World} {v : Value} {qs : List VB} {gen : Int} (h : RL w v qs) (hl : qs.length ≤ 400) (hg : U32 gen) : Calls Tryd.prog 44 #[v, .int .u32 gen] w fun r w' => ∃ v', r = .returned (.tuple #[v', .int .i64 ((scan (LL qs) gen).2 : Nat), .int .u32 (latest (LL qs) gen)]) ∧ OutL w.heap.size w' v' (scan (LL qs) gen).1 ∧ Below w.heap.size w w' := by
  obtain ⟨a, cap, rfl⟩ := h.len
  have hcap := h.row.caps
  have hm1 : qs.length ≤ cap := hcap.2.1
  have hm2 : cap ≤ 9223372036854775807 := hcap.2.2
  have H : Hid (RL w (.slice a qs.length cap) qs) := h
  obtain ⟨m, hm⟩ : ∃ m, m = qs.length := ⟨_, rfl⟩
  have HM : Hid (m = qs.length) := hm
  rw [← hm] at hl hm1 ⊢
  clear hcap h hm
  go_enter Tryd.func44, Tryd.ntmps44
  go_wp2
  go_loopw [4, 5] (fun rv tv wr => ∃ (rs : List VB) (t : Nat) (ra : Option Addr) (rc : Nat), rv = .slice ra rs.length rc ∧ tv = .int .i64 t ∧ Hid (Fnd w (LL qs) gen wr (.slice ra rs.length rc) rs t)) (fun _ tv _ => m - (intOf tv).toNat)
  case atStart => exact ⟨[], 0, none, 0, rfl, rfl, fnd_zero _ _ _⟩
  case round =>
    obtain ⟨rs, t, ra, rc, rfl, rfl, hF⟩ := hrel
    have hlen := hF.out.len
    rw [LL_len, ← HM.out] at hlen
    obtain ⟨ht1, ht2⟩ := hlen
    obtain ⟨n, hn⟩ : ∃ n, n = rs.length := ⟨_, rfl⟩
    have HN : Hid (n = rs.length) := hn
    rw [← hn] at ht2
    have hrl := H.out.below hF.out.bel
    have h38 : Hid (∀ w', Below wr.heap.size wr w' → Calls Tryd.prog 64 #[.slice a m cap, .int .u32 gen] w' fun r w'' => r = .returned (.int .u32 (latest (LL qs) gen)) ∧ Below w'.heap.size w' w'') := fun w' hb => by
      rw [HM.out]
      exact latest38 (hrl.below hb) (by rw [← HM.out]; exact hl) hg
    have hrc := slice_of_own hF.out.rcs.own
    by_cases hct : cap = t
    · have hd := rl_drop0 (s := t) (a := a) (w := wr) (qs := qs) (by rw [← hct]; exact hrl) (by rw [← HM.out]; exact ht1)
      have hst := standing37 (gen := gen) (seq := (n : Int)) hd (by rw [List.length_drop, ← HM.out]; omega) hg (by unfold U32; omega)
      rw [LL_drop] at hst
      have HST : Hid (Calls Tryd.prog 63 #[.slice a 0 0, .int .u32 gen, .int .u32 (n : Int)] wr fun r w' => ∃ v', r = .returned (.tuple #[v', .int .i64 ((stand ((LL qs).drop t) gen n).2 : Nat)]) ∧ OutR wr.heap.size w' v' (stand ((LL qs).drop t) gen n).1 ∧ Below wr.heap.size wr w') := hst
      have hct' := hct.symm
      subst hct'
      rw [← hn]
      clear hd hst hrl hn
      obtain ⟨ra', rc', hra, hrc1, hrc2⟩ := hrc
      obtain ⟨rfl, rfl⟩ : ra = ra' ∧ rc = rc' := by simpa using hra
      clear hra
      by_cases h0 : (stand ((LL qs).drop t) gen n).2 = 0
      · rw [h0] at HST
        have HO : Hid (∀ wz, Below wr.heap.size wr wz → scan (LL qs) gen = (LL rs, t) ∧ OutL w.heap.size wz (.slice ra rs.length rc) (LL rs) ∧ Below w.heap.size w wz) := fun wz hb => hF.out.out (by rw [← HN.out]; exact h0) hb
        rw [← HN.out] at HO hrc1
        clear h0
        go_wp2_with (first
          | (go_at_call 63; go_must (refine HST.out.mono ?_; rintro r w2 ⟨v2, rfl, ho2, hb2⟩; obtain ⟨a2, c2, hv2⟩ := ho2.1.len; subst hv2; have H38 := h38.out w2 hb2; have HB2 : Hid (Below wr.heap.size wr w2) := hb2; clear ho2 hb2))
          | (go_at_call 64; go_must (refine H38.mono ?_; rintro r w3 ⟨rfl, hb3⟩; have HB3 : Hid (Below wr.heap.size wr w3) := bnext HB2.out hb3; clear hb3)))
        obtain ⟨o1, o2, o3⟩ := HO.out _ HB3.out
        rw [o1]
        refine bodyPost_ret (results_tmp3 rfl _ _ _) rfl ⟨_, rfl, o2, o3⟩
      · obtain ⟨sn, hsn⟩ : ∃ sn, sn = (stand ((LL qs).drop t) gen n).2 := ⟨_, rfl⟩
        have hsl : sn ≤ m - t := by
          have := (stand_some h0).le
          rw [List.length_drop, LL_len, ← HM.out, ← hsn] at this
          exact this
        have hs0 : ((sn : Int) == 0) = false := by rw [hsn]; simpa using h0
        have hs1 : 0 < sn := by omega
        rw [← hsn] at HST
        exfalso
        omega
    · have hd := rl_drop (s := t) hrl (by rw [← HM.out]; exact ht1) hct
      have hst := standing37 (gen := gen) (seq := (n : Int)) hd (by rw [List.length_drop, ← HM.out]; omega) hg (by unfold U32; omega)
      rw [LL_drop, ← HM.out] at hst
      have HST : Hid (Calls Tryd.prog 63 #[.slice (Option.map (fun x => x.add t) a) (m - t) (cap - t), .int .u32 gen, .int .u32 (n : Int)] wr fun r w' => ∃ v', r = .returned (.tuple #[v', .int .i64 ((stand ((LL qs).drop t) gen n).2 : Nat)]) ∧ OutR wr.heap.size w' v' (stand ((LL qs).drop t) gen n).1 ∧ Below wr.heap.size wr w') := hst
      rw [← hn]
      clear hd hst hrl hn
      obtain ⟨ra', rc', hra, hrc1, hrc2⟩ := hrc
      obtain ⟨rfl, rfl⟩ : ra = ra' ∧ rc = rc' := by simpa using hra
      clear hra
      by_cases h0 : (stand ((LL qs).drop t) gen n).2 = 0
      · rw [h0] at HST
        have HO : Hid (∀ wz, Below wr.heap.size wr wz → scan (LL qs) gen = (LL rs, t) ∧ OutL w.heap.size wz (.slice ra rs.length rc) (LL rs) ∧ Below w.heap.size w wz) := fun wz hb => hF.out.out (by rw [← HN.out]; exact h0) hb
        rw [← HN.out] at HO hrc1
        clear h0
        go_wp2_with (first
          | (go_at_call 63; go_must (refine HST.out.mono ?_; rintro r w2 ⟨v2, rfl, ho2, hb2⟩; obtain ⟨a2, c2, hv2⟩ := ho2.1.len; subst hv2; have H38 := h38.out w2 hb2; have HB2 : Hid (Below wr.heap.size wr w2) := hb2; clear ho2 hb2))
          | (go_at_call 64; go_must (refine H38.mono ?_; rintro r w3 ⟨rfl, hb3⟩; have HB3 : Hid (Below wr.heap.size wr w3) := bnext HB2.out hb3; clear hb3)))
        obtain ⟨o1, o2, o3⟩ := HO.out _ HB3.out
        rw [o1]
        refine bodyPost_ret (results_tmp3 rfl _ _ _) rfl ⟨_, rfl, o2, o3⟩
      · obtain ⟨sn, hsn⟩ : ∃ sn, sn = (stand ((LL qs).drop t) gen n).2 := ⟨_, rfl⟩
        have hsl : sn ≤ m - t := by
          have := (stand_some h0).le
          rw [List.length_drop, LL_len, ← HM.out, ← hsn] at this
          exact this
        have hs0 : ((sn : Int) == 0) = false := by rw [hsn]; simpa using h0
        have hs1 : 0 < sn := by omega
        rw [← hsn] at HST
        have HMore : Hid (∀ w1 w3 v' ev, Below wr.heap.size wr w1 → OutR wr.heap.size w1 ev (stand ((LL qs).drop t) gen n).1 → w3.ownsRow 0 30 1 v' (rs ++ [(ev, (stand ((LL qs).drop t) gen n).1)]).length (flat lc (rs ++ [(ev, (stand ((LL qs).drop t) gen n).1)])) → (w1.alloc (.cells #[ev] 30)).grownBy w3 (Value.slice ra n rc).ownBlock → (∀ j, v'.ownBlock = some j → (Value.slice ra n rc).ownBlock = some j ∨ (w1.alloc (.cells #[ev] 30)).heap.size ≤ j) → Fnd w (LL qs) gen w3 v' (rs ++ [(ev, (stand ((LL qs).drop t) gen n).1)]) (t + sn)) := fun w1 w3 v' ev hb he k1 k2 k3 => by
          rw [hsn]
          rw [HN.out] at he k1 k2 k3 ⊢
          exact hF.out.more (by rw [← HN.out]; exact h0) hb he k1 k2 k3
        have HOwn : Hid (∀ w1, Below wr.heap.size wr w1 → w1.ownsRow 0 30 1 (.slice ra n rc) rs.length (flat lc rs)) := fun w1 hb => by rw [HN.out]; exact (hF.out.rcs.below hb).own
        rw [← HN.out] at hrc1
        have hrs : rs.length ≤ 400 := by rw [← HN.out]; omega
        have HRS : Hid (rs.length ≤ 400) := hrs
        have HNL : Hid (n = rs.length) := HN
        generalize (stand ((LL qs).drop t) gen n).1 = sb at *
        clear h0 hsn hrs
        go_wp2_with (first
          | (go_at_call 63; go_must (refine HST.out.mono ?_; rintro r w2 ⟨v2, rfl, ho2, hb2⟩; obtain ⟨a2, c2, hv2⟩ := ho2.1.len; subst hv2; have HB2 : Hid (Below wr.heap.size wr w2) := hb2; have HO2 : Hid (OutR wr.heap.size w2 (.slice a2 sb.length c2) sb) := ho2; have HRow2 : Hid ((w2.alloc (.cells #[.slice a2 sb.length c2] 30)).ownsRow 0 30 1 (.slice ra n rc) rs.length (flat lc rs)) := (HOwn.out w2 hb2).alloc _; clear ho2 hb2))
          | (at_builtin; go_must (refine wpList_append_rows ty25 lc_len (by omega) rfl (.tmp 27) (.tmp 29) rfl _ rs rfl HRow2.out _ [(.slice a2 sb.length c2, sb)] rfl (rowF_one (f := lc) w2 (.slice a2 sb.length c2, sb) 30) (flat_lc_one _ (fun q hq => by simp at hq; subst hq; rfl)) (by have := HRS.out; simp; omega) ?_; intro v3 w3 k1 k2 k3; have HF3 : Hid (Fnd w (LL qs) gen w3 v3 (rs ++ [(.slice a2 sb.length c2, sb)]) (t + sn)) := HMore.out w2 w3 v3 _ HB2.out HO2.out k1 k2 k3; obtain ⟨a3, c3, hv3, hc31, hc32⟩ := slice_of_own k1; subst hv3; clear k1 k2 k3)))
        go_roundw
        case rel => exact ⟨rs ++ [(.slice a2 sb.length c2, sb)], t + sn, a3, c3, by simp, by go_num, HF3⟩
        case measure => simp [intOf]; omega
end Go.Proofs.YtkcighejmjgalaaDoor
