/-
  The reference's Hangs.
-/
import Derived.Test.YtjlpdoomchkfgaaTrW
namespace Go.Proofs.Ytjlpdoomchkfgaa
set_option linter.unusedVariables false
set_option linter.unusedSimpArgs false
set_option synthInstance.maxSize 20000
set_option maxHeartbeats 2000000
set_option maxRecDepth 20000
open Go.RowKit Go.Maps

set_option maxHeartbeats 4000000 in
theorem hangs24 {w : World} {tb : Nat} {v : Value} {L : List IT} (h : RTr w tb v L) (n : S) :
    Calls Try.prog 24 #[ptr tb, sv n] w fun e w' => e = .returned (.bool (hangsM (L.map IT.m) 301 n)) ∧ Below w.heap.size w w' := by
  have HF : Hid (∀ w' m1 m2, Below w.heap.size w w' → Calls Try.prog 20 #[ptr tb, .agg #[.int .i64 m1, .int .i64 m2]] w' (GetAns w' L (m1, m2))) := fun w' m1 m2 hb => get20 (h.below hb) (m1, m2)
  clear h
  obtain ⟨n1, n2⟩ := n
  unfold sv at *
  dsimp only at *
  obtain ⟨R, hR⟩ : ∃ R, R = hangsM (L.map IT.m) 301 (n1, n2) := ⟨_, rfl⟩
  rw [← hR]
  have HR0 : Hid (hangsM (L.map IT.m) (301 - 0) (n1, n2) = R) := hR.symm
  clear hR
  obtain ⟨w1, hw1⟩ : ∃ w1, w1 = w.alloc (.cells #[.int .i64 n1, .int .i64 n2] 24) := ⟨_, rfl⟩
  obtain ⟨B0, hB0⟩ : ∃ B0, B0 = w.heap.size := ⟨_, rfl⟩
  have HB1 : Hid (Below w.heap.size w w1) := by show Below _ _ _; rw [hw1]; exact balloc (Below.refl _ _) _
  have HN1 : Hid (Blk w1 B0 24 [.int .i64 n1, .int .i64 n2]) := by show Blk _ _ _ _; rw [hw1, hB0]; exact blk_new w [.int .i64 n1, .int .i64 n2] 24
  have HBB : Hid (w.heap.size ≤ B0) := by show _ ≤ _; omega
  go_enter Try.func24, Try.ntmps24
  go_upto_region 1 with fail
  rw [← hw1, ← hB0]
  clear hw1 hB0
  go_wp2
  go_loopw [5] (fun i wr => ∃ (k : Nat) (y1 y2 : Int), i = .int .i64 (k : Int) ∧ k ≤ 301 ∧ Hid (hangsM (L.map IT.m) (301 - k) (y1, y2) = R) ∧ Hid (Blk wr B0 24 [.int .i64 y1, .int .i64 y2]) ∧ Hid (Below w.heap.size w wr)) (fun i _ => 301 - (intOf i).toNat)
  case atStart => exact ⟨0, n1, n2, rfl, by omega, HR0, HN1, HB1⟩
  case round =>
    obtain ⟨k, y1, y2, rfl, hk, HR, HN, HB⟩ := hrel
    clear HR0 HN1
    rename World => wr
    by_cases hlt : k ≤ 300
    · have hkI : (k : Int) ≤ 300 := by omega
      have HRk : Hid (hangsM (L.map IT.m) ((300 - k) + 1) (y1, y2) = R) := by
        show _ = _
        rw [show (300 - k) + 1 = 301 - k by omega]
        exact HR.out
      clear HR
      have e0 := HN.out.cell 0 _ rfl
      have e1 := HN.out.cell 1 _ rfl
      rcases two_cases (y1, y2) (0, 0) with he | he | ⟨he, he2⟩
      · simp only [Prod.mk.injEq] at he
        obtain ⟨rfl, rfl⟩ := he
        have HRR : Hid (R = true) := by show _ = _; rw [← HRk.out]; exact hangsM_eq _ _
        clear HRk
        go_wp2
        go_ret
        exact ⟨by rw [HRR.out]; rfl, HB.out⟩
      all_goals
        have hne : ¬ (y1, y2) = (0, 0) := fun e => by
          simp only [Prod.mk.injEq] at e
          simp_all
        have HNE : Hid (¬ (y1, y2) = (0, 0)) := hne
        clear hne
        go_upto_region 7 with (first
          | (go_at_call 20; go_must (refine (HF.out _ _ _ HB.out).mono ?_; rintro r w2 ⟨x, b, rfl, hgt, hb2⟩; have HG : Hid (GotT w2 L (y1, y2) x b) := hgt; have HB12 : Hid (Below wr.heap.size wr w2) := hb2; have HBz : Hid (Below w.heap.size w w2) := bnext HB.out hb2; clear hb2 hgt; obtain ⟨w3, hw3⟩ : ∃ w3, w3 = w2.alloc (.cells (ic zT).toArray 41) := ⟨_, rfl⟩; obtain ⟨g, hg⟩ : ∃ g, g = w2.heap.size := ⟨_, rfl⟩; have HT3 : Hid (w3.there g 0 10) := (show _ from by rw [hw3, hg]; exact (itb_new w2 zT).there); have HW3 : Hid (w3 = w2.alloc (.cells (ic zT).toArray 41)) := hw3; have HGG : Hid (g = w2.heap.size) := hg; clear hw3 hg; have tk1 : Hid True := trivial; have tk2 : Hid True := trivial))
          | (clear tk1; refine wpList_okw rfl (exec_alloc41 rfl) ?_; rw [← HW3.out, ← HGG.out])
          | (clear tk2; refine wpList_skipw rfl (exec_store41 (q := x) (.tmp 6) (.tmp 19) rfl rfl rfl HT3.out) ?_; obtain ⟨w4, hw4⟩ : ∃ w4, w4 = w3.setCells g 0 (ic x) := ⟨_, rfl⟩; rw [← hw4]; obtain ⟨i1, i2, i3, i4⟩ := item_put HBz.out HW3.out HGG.out hw4; have HI4 : Hid (Itb w4 g x) := i1; have HB4 : Hid (Below w.heap.size w w4) := i2; have HB24 : Hid (Below w2.heap.size w2 w4) := i3; have HGL : Hid (w.heap.size ≤ g) := i4; clear hw4 i1 i2 i3 i4 HT3 HW3 HGG))
        have hp6 := Blk.cell HI4.out 6 _ rfl
        cases b
        · have HRR : Hid (R = false) := by show _ = _; rw [← HRk.out]; exact hangsM_no HNE.out HG.out
          clear HRk
          go_wp2
          go_ret
          exact ⟨by rw [HRR.out]; rfl, HB4.out⟩
        · cases hg : x.m.g
          · rw [hg] at hp6
            have HRR : Hid (hangsM (L.map IT.m) (301 - (k + 1)) x.m.p = R) := by
              show _ = _
              rw [← HRk.out, hangsM_go HNE.out HG.out, hg, if_neg (by simp), show 301 - (k + 1) = 300 - k by omega]
            have hp2 := Blk.cell HI4.out 2 _ rfl
            have hp3 := Blk.cell HI4.out 3 _ rfl
            have HN4 : Hid (Blk w4 B0 24 [.int .i64 y1, .int .i64 y2]) := HN.out.below (bnext HB12.out HB24.out)
            have HTH : Hid (w4.there B0 0 2) := Blk.there HN4.out 0 2 (by simp)
            obtain ⟨w5, hw5⟩ : ∃ w5, w5 = w4.setCells B0 0 [.int .i64 x.m.p.1, .int .i64 x.m.p.2] := ⟨_, rfl⟩
            have HW5 : Hid (w5 = w4.setCells B0 0 [.int .i64 x.m.p.1, .int .i64 x.m.p.2]) := hw5
            have HN5 : Hid (Blk w5 B0 24 [.int .i64 x.m.p.1, .int .i64 x.m.p.2]) := by show Blk _ _ _ _; rw [hw5]; exact HN4.out.put2
            have HB5 : Hid (Below w.heap.size w w5) := by show Below _ _ _; rw [hw5]; exact below_put HB4.out HBB.out
            have tk3 : Hid True := trivial
            clear hw5 HRk hg
            go_wp2_with (clear tk3; refine wpList_skipw rfl (exec_store24 (.tmp 3) (.tmp 28) rfl rfl rfl HTH.out) ?_; rw [← HW5.out])
            go_roundw
            case rel => exact ⟨k + 1, x.m.p.1, x.m.p.2, by go_num, by omega, HRR, HN5, HB5⟩
            case measure => simp [intOf]; omega
          · rw [hg] at hp6
            have HRR : Hid (R = false) := by show _ = _; rw [← HRk.out, hangsM_go HNE.out HG.out, hg, if_pos rfl]
            clear HRk hg
            go_wp2
            go_ret
            exact ⟨by rw [HRR.out]; rfl, HB4.out⟩
    · have hkI : ¬ (k : Int) ≤ 300 := by omega
      have HRR : Hid (R = false) := by
        show _ = _
        rw [← HR.out, show 301 - k = 0 by omega]
        rfl
      clear HR
      go_wp2
      go_ret
      exact ⟨by rw [HRR.out]; rfl, HB.out⟩
end Go.Proofs.Ytjlpdoomchkfgaa
