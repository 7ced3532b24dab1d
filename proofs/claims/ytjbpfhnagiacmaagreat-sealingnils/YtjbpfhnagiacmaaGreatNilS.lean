/-
  SealingNils, the walk.
-/
import Derived.Test.YtjbpfhnagiacmaaGreatAlvT
namespace Go.Proofs.YtjbpfhnagiacmaaGreat
set_option linter.unusedVariables false
set_option linter.unusedSimpArgs false
set_option synthInstance.maxSize 20000
set_option maxHeartbeats 2000000
set_option maxRecDepth 20000
open Go.RowKit Go.Maps
theorem seal_nil (w : World) (k : Int) (u v : Value) : Calls Tryz.prog 35 #[.pointer none, .int .u64 k, u, v] w fun e w' => e = .returned (.tuple #[.slice none 0 0, .int .i64 23]) ∧ w' = w := by
  go_enter Tryz.func35, Tryz.ntmps35
  go_wp2
  go_ret2
  exact ⟨rfl, rfl⟩
theorem seal_long {S : St} {x : Int} (hx : S.at x = some .key) (N : Nat) : (sealM S (x, 0) 0 0 0 (List.replicate N 0)).1.2 = if N ≤ 1022 then 0 else 3 := by
  unfold sealM
  rw [if_pos (by decide), if_pos rfl]
  by_cases h : N ≤ 1022
  · rw [if_pos h, seal_yes hx (by rw [List.length_replicate]; exact cls_no.2 h)]
  · rw [if_neg h]
    unfold St.seal
    rw [if_pos hx, if_pos]
    rw [List.length_replicate]
    exact Classical.byContradiction fun e => h (cls_no.1 e)
set_option maxHeartbeats 4000000 in
theorem nils6 (n : Int) (tv : Value) (tl : List Int) (w : World) (hn : I64 n) (ht : Rd w tv tl) : Calls Tryz.prog 6 #[.int .i64 n, tv] w fun r w' => r = .returned (.bool true) ∧ Below w.heap.size w w' := by
  have HAl : Hid (∀ w', Calls Tryz.prog 7 #[] w' fun r w'' => r = .returned (.bool true) ∧ Below w'.heap.size w' w'') := fun w' => alive7 w'
  have hcap : tl.length ≤ 9223372036854775807 := by obtain ⟨a, cap, rfl⟩ := ht.len; have := ht.cap; omega
  obtain ⟨ta, tc, rfl⟩ := ht.len
  obtain ⟨tn, htn⟩ : ∃ tn, tn = tl.length := ⟨_, rfl⟩
  rw [← htn] at hcap ⊢
  clear htn
  by_cases hok : (0 ≤ n ∧ n ≤ 1200) ∧ tn ≤ 100
  · obtain ⟨⟨h0, h12⟩, h100⟩ := hok
    obtain ⟨N, hN⟩ : ∃ N : Nat, n = N := ⟨n.toNat, by omega⟩
    subst hN
    have hN12 : N ≤ 1200 := by omega
    have HRm : Hid (Calls Tryz.prog 8 #[.slice none 0 0, .int .i64 1] w (RoPost w ⟨[], []⟩ 1)) := newRoom8 (rdU_nil w) (by simp) 1 (by omega)
    clear hn ht h0 h12
    go_enter Tryz.func6, Tryz.ntmps6
    go_upto_region 6 with (go_at_call 8; go_must (refine HRm.out.mono ?_; rintro r w2 ⟨p, o, sv, tv', rfl, hG⟩))
    have h00 : Ora ⟨[], []⟩ 0 := ora00 (ds := []) (fun d hd => by cases hd)
    obtain ⟨K, O, hRI⟩ := rnK_ok h00 1 (by omega)
    obtain ⟨x, hky, hxk, hxu⟩ := hRI.keyA (i := 0) (by omega)
    have hora := hRI.ora
    have hlen := seal_long hxk N
    obtain ⟨R, hR⟩ : ∃ R, R = rnK ⟨[], []⟩ 1 := ⟨_, rfl⟩
    rw [← hR] at hG hky hora hlen
    obtain ⟨lk, hlk⟩ : ∃ lk : Int, lk = if N ≤ 1022 then 0 else 3 := ⟨_, rfl⟩
    rw [← hlk] at hlen
    have HG : Hid (RG w w2 o p R.S R.S R.M R.M R.A R.X R.B sv tv') := hG
    have HC6 : Hid (∀ w' v, Calls Tryz.prog 9 #[ptr p.ob, .pointer none, .int .i64 0, .int .i64 0, .int .i64 0, v] w' fun e w'' => e = .returned (.tuple #[.slice none 0 0, .int .i64 23]) ∧ Below w'.heap.size w' w'') := fun w' v => seal9_no (K := 0) (kk := 23) (by decide) (by decide) (fun w'' _ => key11_nil w'' 0)
    have HC7 : Hid (∀ w', Calls Tryz.prog 12 #[ptr p.ob, .pointer none, .agg #[.int .i64 0, .int .i64 0, .int .u64 0, .int .i64 1, .int .i64 0, .int .i64 0, .slice none 0 0, .int .u64 0]] w' fun e w'' => e = .returned (.tuple #[.slice none 0 0, .int .i64 23]) ∧ Below w'.heap.size w' w'') := fun w' => open12_no (K := 0) (kk := 23) (e := ⟨0, 0, 0, 1, 0, 0, [], 0⟩) (rd_nil w') (by decide) (by decide) (by decide) (fun w'' _ => key11_nil w'' 0)
    have HC8 : Hid (∀ w' o' v, RIs w' o' 10 p.ra p.ob R.A → Calls Tryz.prog 9 #[.pointer none, ptr p.ra, .int .i64 0, .int .i64 0, .int .i64 0, v] w' fun e w'' => e = .returned (.tuple #[.slice none 0 0, .int .i64 23]) ∧ Below w'.heap.size w' w'') := fun w' o' v hr => by
      have hk := keyPf hr 0
      rw [show keyM R.A.ks 0 = (x, 0) from hky] at hk
      refine (seal9_ok (Post := fun w1 v' k w'' => v' = .slice none 0 0 ∧ k = 23 ∧ w'' = w1) (by decide) hk (fun w'' u _ _ => ?_)).mono ?_
      · refine (seal_nil w'' x u v).mono ?_
        rintro e w3 ⟨rfl, rfl⟩
        exact ⟨_, _, rfl, rfl, rfl, rfl⟩
      · rintro e w'' ⟨v', k, w1, rfl, hb, rfl, rfl, rfl⟩
        exact ⟨rfl, hb⟩
    have HC9 : Hid (∀ w' o' v, OrcAt w' o' p.ob R.S → RIs w' o' 10 p.ra p.ob R.A → Rd w' v (List.replicate N 0) → Calls Tryz.prog 9 #[ptr p.ob, ptr p.ra, .int .i64 0, .int .i64 0, .int .i64 0, v] w' fun e w'' => ∃ v', e = .returned (.tuple #[v', .int .i64 lk]) ∧ ∃ o'', Mv [1] w' o' w'' o'' ∧ OrcAt w'' o'' p.ob (sealM R.S (x, 0) 0 0 0 (List.replicate N 0)).2) := fun w' o' v h1 h2 hv => by
      have h3 := orc_seal9 h1 h2 hora (by omega) (x := 0) (y := 0) (n := 0) (by rw [show keyM R.A.ks 0 = (x, 0) from hky]; exact hxu) hv (by simp; omega)
      rw [show keyM R.A.ks 0 = (x, 0) from hky, hlen] at h3
      refine h3.mono ?_
      rintro e w'' ⟨v', rfl, o'', h4, _, h6⟩
      exact ⟨v', rfl, o'', h6, h4⟩
    have HC10 : Hid (∀ w', Calls Tryz.prog 12 #[ptr p.ob, ptr p.ra, .agg #[.int .i64 0, .int .i64 0, .int .u64 0, .int .i64 1, .int .i64 0, .int .i64 (-1), .slice none 0 0, .int .u64 0]] w' fun e w'' => e = .returned (.tuple #[.slice none 0 0, .int .i64 10]) ∧ Below w'.heap.size w' w'') := fun w' => open12_plain (e := ⟨0, 0, 0, 1, 0, -1, [], 0⟩) (rd_nil w') (by decide) rfl _ _
    have HLk : Hid ((lk == 0) = decide ((N : Int) ≤ 1022)) := (show _ = _ by
      rw [hlk]
      by_cases h : N ≤ 1022
      · rw [if_pos h, decide_eq_true (by omega)]; rfl
      · rw [if_neg h, decide_eq_false (by omega)]; rfl)
    clear hG hRI hky hxk hxu hora hlen hR hlk h00 HRm
    have b0 := HG.out.blk.cell 0 _ rfl
    go_upto_region 7 with (go_at_call 9; go_must (refine (HC6.out w2 _).mono ?_; rintro r w3 ⟨rfl, hb3⟩))
    have HG3 : Hid (RG w w3 (newTo o w2 0) p R.S R.S R.M R.M R.A R.X R.B sv tv') := (show RG _ _ _ _ _ _ _ _ _ _ _ _ _ from HG.out.below hb3 0)
    generalize newTo o w2 0 = o3 at *
    clear HG b0 hb3
    have b0 := HG3.out.blk.cell 0 _ rfl
    go_upto_region 8 with (go_at_call 12; go_must (refine (HC7.out w3).mono ?_; rintro r w4 ⟨rfl, hb4⟩))
    have HG4 : Hid (RG w w4 (newTo o3 w3 0) p R.S R.S R.M R.M R.A R.X R.B sv tv') := (show RG _ _ _ _ _ _ _ _ _ _ _ _ _ from HG3.out.below hb4 0)
    generalize newTo o3 w3 0 = o4 at *
    clear HG3 b0 hb4
    have b2 := HG4.out.blk.cell 2 _ rfl
    go_upto_region 9 with (go_at_call 9; go_must (refine (HC8.out w4 o4 _ HG4.out.a).mono ?_; rintro r w5 ⟨rfl, hb5⟩))
    have HG5 : Hid (RG w w5 (newTo o4 w4 0) p R.S R.S R.M R.M R.A R.X R.B sv tv') := (show RG _ _ _ _ _ _ _ _ _ _ _ _ _ from HG4.out.below hb5 0)
    generalize newTo o4 w4 0 = o5 at *
    clear HG4 b2 hb5
    have ne9 : Nonempty (WIn (fun w' => Blk w' p.wb 42 (rcs p))) := ⟨⟨w5, HG5.out.blk⟩⟩
    have z0 : ∀ z : WIn (fun w' => Blk w' p.wb 42 (rcs p)), _ := fun z => z.ok.cell 0 _ rfl
    have z2 : ∀ z : WIn (fun w' => Blk w' p.wb 42 (rcs p)), _ := fun z => z.ok.cell 2 _ rfl
    have HD : Hid (RG w w5.drew o5 p R.S R.S R.M R.M R.A R.X R.B sv tv') := HG5.out.mv (mv_drew [] _ _) (by simp)
    refine wp_region_ord (C := fun w' => ∃ z : WIn (fun w' => Blk w' p.wb 42 (rcs p)), w' = z.w) [(false, 0), (false, 1), (false, 2), (false, 3), (false, 4), (false, 5), (false, 6), (false, 7), (false, 8), (true, 9), (true, 10), (false, 11), (false, 12), (false, 13), (false, 14), (false, 15)] (by kernel_rfl) (by kernel_rfl) ⟨⟨w5.drew, HD.out.blk⟩, rfl⟩ ?_
    generalize w5.drew = wd at *
    iterate 9 (refine ord_still rfl rfl ?_; go_big_quiet_step (exact rfl); refine wpQuiet_nil ?_)
    refine ord_mem rfl rfl ?_
    refine wp_of_list rfl ?_
    refine wpList_make_bytes 25 5 byteTy rfl (.tmp 68) (.tmp 68) rfl .i64 .i64 (N : Int) (N : Int) N N rfl rfl rfl rfl (Nat.le_refl _) (by omega) ?_
    refine ⟨rfl, ⟨⟨_, HD.out.blk.alloc _⟩, rfl⟩, ?_⟩
    have hb6 : Below wd.heap.size wd (wd.alloc (.cells (cs8 (List.replicate N 0)).toArray 5)) := balloc (Below.refl _ _) _
    have hr6 : Rd (wd.alloc (.cells (cs8 (List.replicate N 0)).toArray 5)) (.slice (some ⟨wd.heap.size, 0, none⟩) N N) (List.replicate N 0) := (own_made wd 5 N N (Nat.le_refl _) (by unfold maxLen; omega)).rd
    have hG6 := HD.out.below hb6 0
    generalize wd.alloc (.cells (cs8 (List.replicate N 0)).toArray 5) = w6 at *
    generalize newTo o5 wd 0 = o6 at *
    go_simp
    refine ord_mem rfl rfl ?_
    go_simp
    refine (HC9.out w6 o6 _ hG6.orc hG6.a hr6).mono ?_
    rintro r w7 ⟨v7, rfl, o7, hM7, hO7⟩
    have hG7 := hG6.orcS hM7 hO7
    refine ⟨⟨⟨w7, hG7.blk⟩, rfl⟩, ?_⟩
    go_simp
    iterate 5 (refine ord_still rfl rfl ?_; go_big_quiet_step (exact rfl); refine wpQuiet_nil ?_)
    refine ord_end ?_
    have HB7 : Hid (Below w.heap.size w w7 ∧ Blk w7 p.wb 42 (rcs p)) := ⟨hG7.bel, hG7.blk⟩
    clear hG6 hG7 hM7 hO7 hr6 hb6 HD z0 z2 ne9 HG5 HC6 HC7 HC8 HC9
    go_wp2
    have ne9 : Nonempty (WIn (fun w' => Blk w' p.wb 42 (rcs p))) := ⟨⟨w7, HB7.out.2⟩⟩
    have z0 : ∀ z : WIn (fun w' => Blk w' p.wb 42 (rcs p)), _ := fun z => z.ok.cell 0 _ rfl
    have z2 : ∀ z : WIn (fun w' => Blk w' p.wb 42 (rcs p)), _ := fun z => z.ok.cell 2 _ rfl
    have HD : Hid (Below w.heap.size w w7.drew ∧ Blk w7.drew p.wb 42 (rcs p)) := ⟨HB7.out.1.drew, HB7.out.2⟩
    refine wp_region_ord (C := fun w' => ∃ z : WIn (fun w' => Blk w' p.wb 42 (rcs p)), w' = z.w) [(false, 0), (false, 1), (false, 2), (false, 3), (false, 4), (false, 5), (false, 6), (false, 7), (false, 8), (false, 9), (true, 10), (false, 11), (false, 12), (false, 13), (false, 14), (false, 15)] (by kernel_rfl) (by kernel_rfl) ⟨⟨w7.drew, HD.out.2⟩, rfl⟩ ?_
    generalize w7.drew = we at *
    iterate 10 (refine ord_still rfl rfl ?_; go_big_quiet_step (exact rfl); refine wpQuiet_nil ?_)
    refine ord_mem rfl rfl ?_
    go_simp
    refine (HC10.out we).mono ?_
    rintro r w8 ⟨rfl, hb8⟩
    refine ⟨⟨⟨w8, HD.out.2.below hb8⟩, rfl⟩, ?_⟩
    go_simp
    iterate 5 (refine ord_still rfl rfl ?_; go_big_quiet_step (exact rfl); refine wpQuiet_nil ?_)
    refine ord_end ?_
    have HB8 : Hid (Below w.heap.size w w8) := (show Below _ _ _ from bnext HD.out.1 hb8)
    have hlk := HLk.out
    have HMo : Hid (∀ w', Calls Tryz.prog 16 #[] w' fun r w'' => r = .returned (.int .i64 1022) ∧ Below w'.heap.size w' w'') := fun w' => most16 w'
    clear HD z0 z2 ne9 HB7 HC10 HLk
    by_cases hle : (N : Int) ≤ 1022
    · rw [decide_eq_true hle] at hlk
      go_wp2_with (first
        | (go_at_call 16; go_must (refine (HMo.out w8).mono ?_; rintro r w9 ⟨rfl, hb9⟩))
        | (go_at_call 7; go_must (refine (HAl.out w9).mono ?_; rintro r w10 ⟨rfl, hb10⟩)))
      go_ret
      exact ⟨rfl, bnext (bnext HB8.out hb9) hb10⟩
    · rw [decide_eq_false hle] at hlk
      go_wp2_with (first
        | (go_at_call 16; go_must (refine (HMo.out w8).mono ?_; rintro r w9 ⟨rfl, hb9⟩))
        | (go_at_call 7; go_must (refine (HAl.out w9).mono ?_; rintro r w10 ⟨rfl, hb10⟩)))
      go_ret
      exact ⟨by show Ending.returned (Value.bool (!decide ((N : Int) ≤ 1022))) = _; rw [decide_eq_false (by omega : ¬ (N : Int) ≤ 1022)]; rfl, bnext (bnext HB8.out hb9) hb10⟩
  · go_enter Tryz.func6, Tryz.ntmps6
    by_cases h0 : n < 0
    · go_wp2_with (go_at_call 7; go_must (refine (HAl.out w).mono ?_; rintro r w2 ⟨rfl, hb2⟩))
      go_ret
      exact ⟨rfl, hb2⟩
    · by_cases h12 : 1200 < n
      · go_wp2_with (go_at_call 7; go_must (refine (HAl.out w).mono ?_; rintro r w2 ⟨rfl, hb2⟩))
        go_ret
        exact ⟨rfl, hb2⟩
      · have h100 : (100 : Int) < (tn : Int) := by omega
        go_wp2_with (go_at_call 7; go_must (refine (HAl.out w).mono ?_; rintro r w2 ⟨rfl, hb2⟩))
        go_ret
        exact ⟨rfl, hb2⟩
end Go.Proofs.YtjbpfhnagiacmaaGreat
