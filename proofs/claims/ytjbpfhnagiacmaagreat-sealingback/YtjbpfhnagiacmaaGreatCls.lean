/-
  Class and Most of program and document.
-/
import Derived.Test.YtjbpfhnagiacmaaGreatSea
namespace Go.Proofs.YtjbpfhnagiacmaaGreat
set_option linter.unusedVariables false
set_option linter.unusedSimpArgs false
set_option synthInstance.maxSize 20000
set_option maxHeartbeats 2000000
set_option maxRecDepth 20000
open Go.RowKit Go.Maps
def classE (n : Nat) : Int := if n = 24 then 0 else if n = 40 then 1 else if n = 72 then 2 else if n = 136 then 3 else if n = 264 then 4 else if n = 520 then 5 else if n = 1032 then 6 else -1
theorem classE_hit {k n : Nat} (hk : k < 7) (h : n = 8 + 16 * 2 ^ k) : classE n = k := by
  have h7 : k = 0 ∨ k = 1 ∨ k = 2 ∨ k = 3 ∨ k = 4 ∨ k = 5 ∨ k = 6 := by omega
  subst h
  rcases h7 with rfl | rfl | rfl | rfl | rfl | rfl | rfl <;> rfl
theorem classE_none {n : Nat} (h : ∀ k, k < 7 → n ≠ 8 + 16 * 2 ^ k) : classE n = -1 := by
  have h0 := h 0 (by omega); have h1 := h 1 (by omega); have h2 := h 2 (by omega); have h3 := h 3 (by omega); have h4 := h 4 (by omega); have h5 := h 5 (by omega); have h6 := h 6 (by omega)
  unfold classE
  simp at h0 h1 h2 h3 h4 h5 h6
  simp [h0, h1, h2, h3, h4, h5, h6]
theorem class14 {w : World} {e : Ent} {v : Value} (hv : Rd w v e.b) : Calls Tryz.prog 14 #[ev e v] w fun r w' => r = .returned (.int .i64 (classE e.b.length)) ∧ Below w.heap.size w w' := by
  have hcap : e.b.length ≤ 9223372036854775807 := by obtain ⟨a, cap, rfl⟩ := hv.len; have := hv.cap; omega
  obtain ⟨a, cap, rfl⟩ := hv.len
  obtain ⟨ew, ei, ep, et, eu, en, eb, eg⟩ := e
  unfold ev at *
  dsimp only at *
  obtain ⟨w1, hw1⟩ : ∃ w1, w1 = w.alloc (.cells #[.int .i64 ew, .int .i64 ei, .int .u64 ep, .int .i64 et, .int .i64 eu, .int .i64 en, .slice a eb.length cap, .int .u64 eg] 30) := ⟨_, rfl⟩
  have HX : Hid (∀ w', Below w1.heap.size w1 w' → Blk w' w.heap.size 30 [.int .i64 ew, .int .i64 ei, .int .u64 ep, .int .i64 et, .int .i64 eu, .int .i64 en, .slice a eb.length cap, .int .u64 eg]) := fun w' hb => by
    refine Blk.below ?_ hb
    rw [hw1]
    exact blk_new w _ 30
  have HB1 : Hid (Below w.heap.size w w1) := by show Below _ _ _; rw [hw1]; exact balloc (Below.refl _ _) _
  have HSz : Hid (∀ k : Nat, k < 7 → ∀ w', Calls Tryz.prog 44 #[.int .i64 (k : Int)] w' fun e w'' => e = .returned (.int .i64 ((16 * 2 ^ k : Nat) : Int)) ∧ Below w'.heap.size w' w'') := fun k hk w' => by
    have := size_any (k : Int) w'
    rw [sizeI_nat k hk] at this
    refine this.mono ?_
    rintro e w'' ⟨rfl, rfl⟩
    exact ⟨rfl, Below.refl _ _⟩
  obtain ⟨nl, hnl⟩ : ∃ nl, nl = eb.length := ⟨_, rfl⟩
  rw [← hnl] at hcap hw1 HX ⊢
  clear hv hnl
  go_enter Tryz.func14, Tryz.ntmps14
  go_upto_region 1 with fail
  rw [← hw1]
  obtain ⟨B, hB⟩ : ∃ B, B = w.heap.size := ⟨_, rfl⟩
  rw [← hB] at HX ⊢
  clear hw1 hB
  go_wp2_with (go_at_call 43; go_must (refine (classes_any _).mono ?_; rintro r w2 ⟨rfl, hw2⟩; replace hw2 := hw2.symm; subst hw2))
  go_loopw [5] (fun i wr => ∃ c : Nat, c ≤ 7 ∧ i = .int .i64 c ∧ Hid (∀ k, k < c → nl ≠ 8 + 16 * 2 ^ k) ∧ Hid (Below w1.heap.size w1 wr)) (fun i _ => 7 - (intOf i).toNat)
  case atStart => exact ⟨0, by omega, rfl, (fun k hk => absurd hk (Nat.not_lt_zero k)), Below.refl _ _⟩
  case round =>
    obtain ⟨c, hc, rfl, HNo, HB⟩ := hrel
    by_cases h7 : c < 7
    · have HS := HSz.out c h7
      have HSc : Hid (∀ w', Calls Tryz.prog 44 #[.int .i64 (c : Int)] w' fun e w'' => e = .returned (.int .i64 ((16 * 2 ^ c : Nat) : Int)) ∧ Below w'.heap.size w' w'') := HS
      obtain ⟨sz, hsz⟩ : ∃ sz : Nat, 16 * 2 ^ c = sz := ⟨_, rfl⟩
      have h16 : 2 ^ c ≤ 2 ^ 6 := Nat.pow_le_pow_right (by omega) (by omega)
      have hszl : sz ≤ 1024 := by omega
      rw [hsz] at HSc
      clear HS h16
      go_upto_region 4 with fail
      have ne : Nonempty (WIn (fun w' => Below wr.heap.size wr w')) := ⟨⟨wr, Below.refl _ _⟩⟩
      have k6 := fun z : WIn (fun w' => Below wr.heap.size wr w') => ((HX.out wr HB.out).below z.ok).cell 6 _ rfl
      have HD : Hid (Below wr.heap.size wr wr.drew) := (show Below _ _ _ from (Below.refl _ _).drew)
      by_cases hh : nl = 8 + sz
      · have HC : Hid (classE nl = c) := classE_hit h7 (by rw [hsz]; exact hh)
        have hq : ((nl : Int) == 8 + (sz : Int)) = true := by simp; omega
        refine wp_region_ord (C := fun w' => ∃ z : WIn (fun w' => Below wr.heap.size wr w'), w' = z.w) [(false, 0), (false, 1), (false, 2), (false, 3), (true, 4), (false, 5), (false, 6)] (by kernel_rfl) (by kernel_rfl) ⟨⟨wr.drew, HD.out⟩, rfl⟩ ?_
        generalize wr.drew = wd at *
        iterate 4 (refine ord_still rfl rfl ?_; go_big_quiet_step (exact rfl); refine wpQuiet_nil ?_)
        refine ord_mem rfl rfl ?_
        go_simp
        refine (HSc.out _).mono ?_
        rintro r w3 ⟨rfl, hb3⟩
        refine ⟨⟨⟨_, (show Below _ _ _ from bnext HD.out hb3)⟩, rfl⟩, ?_⟩
        go_simp
        iterate 2 (refine ord_still rfl rfl ?_; go_big_quiet_step (exact rfl); refine wpQuiet_nil ?_)
        refine ord_end ?_
        go_wp2
        go_ret
        exact ⟨by rw [HC.out]; rfl, bnext HB1.out (bnext HB.out (bnext HD.out hb3))⟩
      · have HN2 : Hid (∀ k, k < c + 1 → nl ≠ 8 + 16 * 2 ^ k) := fun k hk => by
          by_cases e : k = c
          · subst e; rw [hsz]; exact hh
          · exact HNo.out k (by omega)
        have hq : ((nl : Int) == 8 + (sz : Int)) = false := by simp; omega
        refine wp_region_ord (C := fun w' => ∃ z : WIn (fun w' => Below wr.heap.size wr w'), w' = z.w) [(false, 0), (false, 1), (false, 2), (false, 3), (true, 4), (false, 5), (false, 6)] (by kernel_rfl) (by kernel_rfl) ⟨⟨wr.drew, HD.out⟩, rfl⟩ ?_
        generalize wr.drew = wd at *
        iterate 4 (refine ord_still rfl rfl ?_; go_big_quiet_step (exact rfl); refine wpQuiet_nil ?_)
        refine ord_mem rfl rfl ?_
        go_simp
        refine (HSc.out _).mono ?_
        rintro r w3 ⟨rfl, hb3⟩
        refine ⟨⟨⟨_, (show Below _ _ _ from bnext HD.out hb3)⟩, rfl⟩, ?_⟩
        have HB3 : Hid (Below w1.heap.size w1 w3) := (show Below _ _ _ from bnext HB.out (bnext HD.out hb3))
        go_simp
        iterate 2 (refine ord_still rfl rfl ?_; go_big_quiet_step (exact rfl); refine wpQuiet_nil ?_)
        refine ord_end ?_
        go_wp2
        go_roundw
        case rel => exact ⟨c + 1, by omega, by go_num, HN2.out, HB3.out⟩
        case measure => simp [intOf]; omega
    · have : c = 7 := by omega
      subst this
      have HC : Hid (classE nl = -1) := classE_none HNo.out
      go_wp2
      go_ret
      exact ⟨by rw [HC.out]; rfl, bnext HB1.out HB.out⟩
theorem rclass15 {w : World} {e : Ent} {v : Value} (hv : Rd w v e.b) : Calls Tryz.prog 15 #[ev e v] w fun r w' => r = .returned (.int .i64 (classE e.b.length)) ∧ Below w.heap.size w w' := by
  have hcap : e.b.length ≤ 9223372036854775807 := by obtain ⟨a, cap, rfl⟩ := hv.len; have := hv.cap; omega
  obtain ⟨a, cap, rfl⟩ := hv.len
  obtain ⟨ew, ei, ep, et, eu, en, eb, eg⟩ := e
  unfold ev at *
  dsimp only at *
  obtain ⟨w1, hw1⟩ : ∃ w1, w1 = w.alloc (.cells #[.int .i64 ew, .int .i64 ei, .int .u64 ep, .int .i64 et, .int .i64 eu, .int .i64 en, .slice a eb.length cap, .int .u64 eg] 30) := ⟨_, rfl⟩
  have HX : Hid (∀ w', Below w1.heap.size w1 w' → Blk w' w.heap.size 30 [.int .i64 ew, .int .i64 ei, .int .u64 ep, .int .i64 et, .int .i64 eu, .int .i64 en, .slice a eb.length cap, .int .u64 eg]) := fun w' hb => by
    refine Blk.below ?_ hb
    rw [hw1]
    exact blk_new w _ 30
  have HB1 : Hid (Below w.heap.size w w1) := by show Below _ _ _; rw [hw1]; exact balloc (Below.refl _ _) _
  have HSz : Hid (∀ k : Nat, k < 7 → ∀ w', Calls Tryz.prog 45 #[.int .i64 (k : Int)] w' fun e w'' => e = .returned (.int .i64 ((16 * 2 ^ k : Nat) : Int)) ∧ Below w'.heap.size w' w'') := fun k hk w' => by
    have := refsize_any (k : Int) w' (by omega)
    rwa [sizeI_nat k hk] at this
  obtain ⟨nl, hnl⟩ : ∃ nl, nl = eb.length := ⟨_, rfl⟩
  rw [← hnl] at hcap hw1 HX ⊢
  clear hv hnl
  go_enter Tryz.func15, Tryz.ntmps15
  go_upto_region 1 with fail
  rw [← hw1]
  obtain ⟨B, hB⟩ : ∃ B, B = w.heap.size := ⟨_, rfl⟩
  rw [← hB] at HX ⊢
  clear hw1 hB
  go_wp2
  go_loopw [3] (fun i wr => ∃ c : Nat, c ≤ 7 ∧ i = .int .i64 c ∧ Hid (∀ k, k < c → nl ≠ 8 + 16 * 2 ^ k) ∧ Hid (Below w1.heap.size w1 wr)) (fun i _ => 7 - (intOf i).toNat)
  case atStart => exact ⟨0, by omega, rfl, (fun k hk => absurd hk (Nat.not_lt_zero k)), Below.refl _ _⟩
  case round =>
    obtain ⟨c, hc, rfl, HNo, HB⟩ := hrel
    by_cases h7 : c < 7
    · have HS := HSz.out c h7
      have HSc : Hid (∀ w', Calls Tryz.prog 45 #[.int .i64 (c : Int)] w' fun e w'' => e = .returned (.int .i64 ((16 * 2 ^ c : Nat) : Int)) ∧ Below w'.heap.size w' w'') := HS
      obtain ⟨sz, hsz⟩ : ∃ sz : Nat, 16 * 2 ^ c = sz := ⟨_, rfl⟩
      have h16 : 2 ^ c ≤ 2 ^ 6 := Nat.pow_le_pow_right (by omega) (by omega)
      have hszl : sz ≤ 1024 := by omega
      rw [hsz] at HSc
      clear HS h16
      go_upto_region 4 with fail
      have ne : Nonempty (WIn (fun w' => Below wr.heap.size wr w')) := ⟨⟨wr, Below.refl _ _⟩⟩
      have k6 := fun z : WIn (fun w' => Below wr.heap.size wr w') => ((HX.out wr HB.out).below z.ok).cell 6 _ rfl
      have HD : Hid (Below wr.heap.size wr wr.drew) := (show Below _ _ _ from (Below.refl _ _).drew)
      by_cases hh : nl = 8 + sz
      · have HC : Hid (classE nl = c) := classE_hit h7 (by rw [hsz]; exact hh)
        have hq : ((nl : Int) == 8 + (sz : Int)) = true := by simp; omega
        refine wp_region_ord (C := fun w' => ∃ z : WIn (fun w' => Below wr.heap.size wr w'), w' = z.w) [(false, 0), (false, 1), (false, 2), (false, 3), (true, 4), (false, 5), (false, 6)] (by kernel_rfl) (by kernel_rfl) ⟨⟨wr.drew, HD.out⟩, rfl⟩ ?_
        generalize wr.drew = wd at *
        iterate 4 (refine ord_still rfl rfl ?_; go_big_quiet_step (exact rfl); refine wpQuiet_nil ?_)
        refine ord_mem rfl rfl ?_
        go_simp
        refine (HSc.out _).mono ?_
        rintro r w3 ⟨rfl, hb3⟩
        refine ⟨⟨⟨_, (show Below _ _ _ from bnext HD.out hb3)⟩, rfl⟩, ?_⟩
        go_simp
        iterate 2 (refine ord_still rfl rfl ?_; go_big_quiet_step (exact rfl); refine wpQuiet_nil ?_)
        refine ord_end ?_
        go_wp2
        go_ret
        exact ⟨by rw [HC.out]; rfl, bnext HB1.out (bnext HB.out (bnext HD.out hb3))⟩
      · have HN2 : Hid (∀ k, k < c + 1 → nl ≠ 8 + 16 * 2 ^ k) := fun k hk => by
          by_cases e : k = c
          · subst e; rw [hsz]; exact hh
          · exact HNo.out k (by omega)
        have hq : ((nl : Int) == 8 + (sz : Int)) = false := by simp; omega
        refine wp_region_ord (C := fun w' => ∃ z : WIn (fun w' => Below wr.heap.size wr w'), w' = z.w) [(false, 0), (false, 1), (false, 2), (false, 3), (true, 4), (false, 5), (false, 6)] (by kernel_rfl) (by kernel_rfl) ⟨⟨wr.drew, HD.out⟩, rfl⟩ ?_
        generalize wr.drew = wd at *
        iterate 4 (refine ord_still rfl rfl ?_; go_big_quiet_step (exact rfl); refine wpQuiet_nil ?_)
        refine ord_mem rfl rfl ?_
        go_simp
        refine (HSc.out _).mono ?_
        rintro r w3 ⟨rfl, hb3⟩
        refine ⟨⟨⟨_, (show Below _ _ _ from bnext HD.out hb3)⟩, rfl⟩, ?_⟩
        have HB3 : Hid (Below w1.heap.size w1 w3) := (show Below _ _ _ from bnext HB.out (bnext HD.out hb3))
        go_simp
        iterate 2 (refine ord_still rfl rfl ?_; go_big_quiet_step (exact rfl); refine wpQuiet_nil ?_)
        refine ord_end ?_
        go_wp2
        go_roundw
        case rel => exact ⟨c + 1, by omega, by go_num, HN2.out, HB3.out⟩
        case measure => simp [intOf]; omega
    · have : c = 7 := by omega
      subst this
      have HC : Hid (classE nl = -1) := classE_none HNo.out
      go_wp2
      go_ret
      exact ⟨by rw [HC.out]; rfl, bnext HB1.out HB.out⟩
theorem most16 (w : World) : Calls Tryz.prog 16 #[] w fun r w' => r = .returned (.int .i64 1022) ∧ Below w.heap.size w w' := by
  have HR : Hid (∀ w', Calls Tryz.prog 46 #[.int .i64 6] w' fun e w'' => e = .returned (.int .i64 1022) ∧ Below w'.heap.size w' w'') := fun w' => room_any 6 w'
  go_enter Tryz.func16, Tryz.ntmps16
  go_wp2_with (first
    | (go_at_call 43; go_must (refine (classes_any _).mono ?_; rintro r w2 ⟨rfl, hw2⟩; replace hw2 := hw2.symm; subst hw2))
    | (go_at_call 46; go_must (refine (HR.out _).mono ?_; rintro r w3 ⟨rfl, hb3⟩)))
  go_ret
  exact ⟨rfl, hb3⟩
theorem rroom17 (w : World) : Calls Tryz.prog 17 #[.int .i64 6] w fun r w' => r = .returned (.int .i64 1022) ∧ Below w.heap.size w w' := refroom_any 6 w
end Go.Proofs.YtjbpfhnagiacmaaGreat
