/-
  The law's alive: the chapter's example, whatever the world.
-/
import Derived.Test.YtkoeocghoabmbaaGreatNww
namespace Go.Proofs.YtkoeocghoabmbaaGreat
set_option linter.unusedVariables false
set_option linter.unusedSimpArgs false
set_option synthInstance.maxSize 20000
set_option maxHeartbeats 2000000
set_option maxRecDepth 20000
open Go.RowKit Go.Maps
def aS : St := ⟨[], []⟩
def aB : Bg := beginM aS.pair [⟨0, psN aS 0, 0, -1, 0⟩] (-1) 0
def aR : Rg × Int := learnP aB.S ⟨0, ssN aS 0, [], []⟩ aB.c
theorem alive_pure : aB.k = 0 ∧ aB.key ≠ 0 ∧ aR.2 = 0 ∧ aR.1.ks = [aB.key] ∧ aB.c.o = [] := by
  refine ⟨by kernel_rfl, by decide, by kernel_rfl, by kernel_rfl, by kernel_rfl⟩
theorem aS_ora : Ora aS 0 := ora0 (fun _ h => by cases h)
theorem aB_ora : Ora aB.S 100 := (begin_ora (aS_ora.pair (by omega)) [⟨0, psN aS 0, 0, -1, 0⟩] (-1) 0 (by simp)).le (by simp)
theorem alive8 (w : World) : Calls Tryz.prog 8 #[] w fun r w' => r = .returned (.bool true) ∧ Below w.heap.size w w' := by
  have HO : Hid (Calls Tryz.prog 24 #[.slice none 0 0] w fun e w' => ∃ b, e = .returned (ptr b) ∧ OrcAt w' (newTo (fun _ => 0) w 1) b aS ∧ Mv [] w (fun _ => 0) w' (newTo (fun _ => 0) w 1)) := orc_new (fun _ => 0) (rdU_nil w) (by simp)
  have HPr : Hid (∀ w' o' ob, OrcAt w' o' ob aS → Calls Tryz.prog 25 #[ptr ob] w' fun e w'' => e = .returned (.tuple #[.int .u64 (ssN aS 0), .int .u64 (psN aS 0)]) ∧ ∃ o'', OrcAt w'' o'' ob aS.pair ∧ Mv [1] w' o' w'' o'') := fun w' o' ob h => orc_pair h aS_ora (by omega)
  have HRn : Hid (∀ w' o' ob, Calls Tryz.prog 23 #[ptr ob, .int .i64 0, .int .u64 (ssN aS 0)] w' fun r w'' => r = .returned (.tuple #[ptr w'.heap.size, .int .i64 0]) ∧ RIs w'' (newTo o' w' 10) 10 w'.heap.size ob ⟨0, ssN aS 0, [], []⟩ ∧ Below w'.heap.size w' w'') := fun w' o' ob => new23 w' o' 10 ob 0 _ (by omega) (by omega)
  have HNs : Hid (∀ w', Calls Tryz.prog 26 #[.int .u64 (psN aS 0)] w' fun r w'' => ∃ v, r = .returned (stv v (-1)) ∧ RowF mc w'' v [⟨0, psN aS 0, 0, -1, 0⟩] ∧ (∀ j, v.ownBlock = some j → w'.heap.size ≤ j) ∧ Below w'.heap.size w' w'') := fun w' => new10f (psN aS 0) w'
  have HBg : Hid (∀ w' o' ob lv, OrcAt w' o' ob aS.pair → KpF mc w' o' lv [⟨0, psN aS 0, 0, -1, 0⟩] → Calls Tryz.prog 15 #[ptr ob, stv lv (-1), .int .u64 0] w' (BgPost w' o' ob aB)) := fun w' o' ob lv h1 h2 => by
    refine begin15 h1 (aS_ora.pair (by omega)) h2 (by simp) (by simp) (fun m hm => ?_) (by unfold EOk; omega) (by unfold U64; omega)
    simp at hm
    subst hm
    exact ⟨psN_u64 aS_ora (by omega), by unfold I64; dsimp only; omega⟩
  have HLn : Hid (∀ w' o' rb ob a b qs, RIs w' o' 10 rb ob ⟨0, ssN aS 0, [], []⟩ → OrcAt w' o' ob aB.S → CgAt w' aB.c a b qs → Kp0 w' o' b aB.c.o → Calls Tryz.prog 20 #[ptr rb, cv aB.c a b] w' fun x w'' => x = .returned (.int .i64 0) ∧ ∃ o'', RIs w'' o'' 10 rb ob aR.1 ∧ Mv [10] w' o' w'' o'') := fun w' o' rb ob a b qs h1 h2 h3 h4 => by
    have h := learn20 h1 h2 aB_ora (by omega) (by omega) h3 h4 (by rw [alive_pure.2.2.2.2]; simp)
    have e : (learnP aB.S ⟨0, ssN aS 0, [], []⟩ aB.c).2 = 0 := alive_pure.2.2.1
    rw [e] at h
    exact h
  have HKy : Hid (∀ w' o' rb ob, RIs w' o' 10 rb ob aR.1 → Calls Tryz.prog 11 #[ptr rb, .int .i64 0] w' fun x w'' => x = .returned (.tuple #[.int .u64 aB.key, .int .i64 0]) ∧ w'' = w') := fun w' o' rb ob h => by
    have h1 := key11 h 0
    have e : keyM aR.1.ks 0 = (aB.key, 0) := by
      rw [alive_pure.2.2.2.1]
      unfold keyM
      rw [if_neg (by simp), if_neg (by simpa using alive_pure.2.1)]
      rfl
    rw [e] at h1
    exact h1
  have HCn : Hid (∀ w' o' rb ob, RIs w' o' 10 rb ob aR.1 → Calls Tryz.prog 13 #[ptr rb] w' fun x w'' => x = .returned (.int .i64 1) ∧ w'' = w') := fun w' o' rb ob h => by
    have h1 := count13 h
    rw [alive_pure.2.2.2.1] at h1
    exact h1
  have hbk : aB.k = 0 := alive_pure.1
  have hk0 : (aB.key != 0) = true := by simpa using alive_pure.2.1
  have hk1 : (aB.key == aB.key) = true := by simp
  obtain ⟨s, hs⟩ : ∃ s, s = ssN aS 0 := ⟨_, rfl⟩
  obtain ⟨p, hp⟩ : ∃ p, p = psN aS 0 := ⟨_, rfl⟩
  rw [← hs] at HPr HRn HLn
  rw [← hp] at HPr HNs HBg
  generalize aR.1 = R1 at *
  generalize aS.pair = S1 at *
  generalize aS = S0 at *
  generalize aB = B at *
  clear hs hp
  go_enter Tryz.func8, Tryz.ntmps8
  go_upto_region 2 with (go_at_call 24; go_must (refine HO.out.mono ?_; rintro r w1 ⟨ob, rfl, hO1, hM1⟩))
  have HO1 : Hid (OrcAt w1 (newTo (fun _ => 0) w 1) ob S0) := hO1
  have HM1 : Hid (Mv [] w (fun _ => 0) w1 (newTo (fun _ => 0) w 1)) := hM1
  clear hO1 hM1 HO
  generalize newTo (fun _ => 0) w 1 = o1 at *
  go_upto_region 3 with (go_at_call 25; go_must (refine (HPr.out w1 o1 ob HO1.out).mono ?_; rintro r w2 ⟨rfl, o2, hO2, hM2⟩))
  have HO2 : Hid (OrcAt w2 o2 ob S1) := hO2
  have HM2 : Hid (Mv [1, 10] w (fun _ => 0) w2 o2) := (show Mv _ _ _ _ _ from (HM1.out.widen (by simp)).trans (hM2.widen (by simp)))
  clear hO2 hM2 HO1 HM1
  go_upto_region 4 with (go_at_call 23; go_must (refine (HRn.out w2 o2 ob).mono ?_; rintro r w3 ⟨rfl, hR3, hb3⟩))
  have HO3 : Hid (OrcAt w3 (newTo o2 w2 10) ob S1) := (show OrcAt _ _ _ _ from HO2.out.mv (Mv.of_below (I := []) 10 hb3) (by simp))
  have HM3 : Hid (Mv [1, 10] w (fun _ => 0) w3 (newTo o2 w2 10)) := (show Mv _ _ _ _ _ from HM2.out.trans (Mv.of_below 10 hb3))
  have HR3 : Hid (RIs w3 (newTo o2 w2 10) 10 w2.heap.size ob ⟨0, s, [], []⟩) := hR3
  clear hR3 hb3 HO2 HM2
  generalize newTo o2 w2 10 = o3 at *
  generalize w2.heap.size = rb at *
  go_upto_region 5 with (first
    | (go_at_call 26; go_must (refine (HNs.out w3).mono ?_; rintro r w4 ⟨v4, rfl, hr4, hn4, hb4⟩; have hK4 : KpF mc w4 (newTo o3 w3 0) v4 [⟨0, p, 0, -1, 0⟩] := KpF.of_new mc_pos hr4 hn4; obtain ⟨x4, y4, hv4⟩ := hr4.len; subst hv4; have HO4 : Hid (OrcAt w4 (newTo o3 w3 0) ob S1) := (show OrcAt _ _ _ _ from HO3.out.below hb4); have HM4 : Hid (Mv [1, 10] w (fun _ => 0) w4 (newTo o3 w3 0)) := (show Mv _ _ _ _ _ from HM3.out.trans (Mv.of_below 0 hb4)); have HR4 : Hid (RIs w4 (newTo o3 w3 0) 10 rb ob ⟨0, s, [], []⟩) := (show RIs _ _ _ _ _ _ from HR3.out.mv (Mv.of_below (I := []) 0 hb4) (by simp) (by simp)); unfold stv))
    | (go_at_call 15; go_must (refine (HBg.out w4 (newTo o3 w3 0) ob _ HO4.out hK4).mono ?_; rintro r w5 ⟨a5, b5, rfl, o5, qs5, hO5, hC5, hK5, hq5, hb5, hM5⟩; obtain ⟨⟨xa5, na5, pa5, ea5⟩, xb5, nb5, pb5, eb5⟩ := slices_of hC5; subst ea5 eb5; have HM5 : Hid (Mv [1, 10] w (fun _ => 0) w5 o5) := (show Mv _ _ _ _ _ from HM4.out.trans (hM5.widen (by simp))); have HR5 : Hid (RIs w5 o5 10 rb ob ⟨0, s, [], []⟩) := (show RIs _ _ _ _ _ _ from HR4.out.mv hM5 (by simp) (by simp)); unfold cv)))
  have hal : Below w5.heap.size w5 (w5.alloc (.cells #[.int .i64 B.c.k, .int .i64 B.c.w, .int .u64 B.c.p, .int .i64 B.c.l, .slice xa5 na5 pa5, .slice xb5 nb5 pb5] 59)) := balloc (Below.refl _ _) _
  have HV : Hid (CVar (w5.alloc (.cells #[.int .i64 B.c.k, .int .i64 B.c.w, .int .u64 B.c.p, .int .i64 B.c.l, .slice xa5 na5 pa5, .slice xb5 nb5 pb5] 59)) (newTo o5 w5 0) w5.heap.size 59 B.c (.slice xa5 na5 pa5) (.slice xb5 nb5 pb5) qs5) := cvar_new 59 hC5 hK5 hq5 hb5
  have HO6 : Hid (OrcAt (w5.alloc (.cells #[.int .i64 B.c.k, .int .i64 B.c.w, .int .u64 B.c.p, .int .i64 B.c.l, .slice xa5 na5 pa5, .slice xb5 nb5 pb5] 59)) (newTo o5 w5 0) ob B.S) := (show OrcAt _ _ _ _ from hO5.below hal)
  have HR6 : Hid (RIs (w5.alloc (.cells #[.int .i64 B.c.k, .int .i64 B.c.w, .int .u64 B.c.p, .int .i64 B.c.l, .slice xa5 na5 pa5, .slice xb5 nb5 pb5] 59)) (newTo o5 w5 0) 10 rb ob ⟨0, s, [], []⟩) := (show RIs _ _ _ _ _ _ from HR5.out.mv (Mv.of_below (I := []) 0 hal) (by simp) (by simp))
  have HM6 : Hid (Mv [1, 10] w (fun _ => 0) (w5.alloc (.cells #[.int .i64 B.c.k, .int .i64 B.c.w, .int .u64 B.c.p, .int .i64 B.c.l, .slice xa5 na5 pa5, .slice xb5 nb5 pb5] 59)) (newTo o5 w5 0)) := (show Mv _ _ _ _ _ from HM5.out.trans (Mv.of_below 0 hal))
  generalize w5.alloc (.cells #[.int .i64 B.c.k, .int .i64 B.c.w, .int .u64 B.c.p, .int .i64 B.c.l, .slice xa5 na5 pa5, .slice xb5 nb5 pb5] 59) = w6 at *
  generalize newTo o5 w5 0 = o6 at *
  generalize w5.heap.size = vb at *
  have x0 := HV.out.var.cell 0 _ rfl; have x1 := HV.out.var.cell 1 _ rfl; have x2 := HV.out.var.cell 2 _ rfl; have x3 := HV.out.var.cell 3 _ rfl; have x4 := HV.out.var.cell 4 _ rfl; have x5 := HV.out.var.cell 5 _ rfl
  clear hal hC5 hK5 hq5 hb5 hO5 hM5 HR5 HM5 HM4 HR4 HO4 hr4 hn4 hb4 hK4 HO3 HM3 HR3 HNs HBg HPr HRn
  unfold cv at HLn
  go_upto_region 6 with (go_at_call 20; go_must (refine (HLn.out w6 o6 rb ob _ _ _ HR6.out HO6.out HV.out.cg HV.out.kb).mono ?_; rintro r w7 ⟨rfl, o7, hR7, hM7⟩))
  have HR7 : Hid (RIs w7 o7 10 rb ob R1) := hR7
  have HM7 : Hid (Mv [1, 10] w (fun _ => 0) w7 o7) := (show Mv _ _ _ _ _ from HM6.out.trans (hM7.widen (by simp)))
  clear hR7 hM7 HR6 HM6 HO6 HV HLn x0 x1 x2 x3 x4 x5
  go_wp2_with (first
    | (go_at_call 11; go_must (refine (HKy.out w7 o7 rb ob HR7.out).mono ?_; rintro r w8 ⟨rfl, rfl⟩))
    | (go_at_call 13; go_must (refine (HCn.out w8 o7 rb ob HR7.out).mono ?_; rintro r w9 ⟨rfl, rfl⟩)))
  go_ret
  exact ⟨rfl, HM7.out.below (Nat.le_refl _) (by simp)⟩
end Go.Proofs.YtkoeocghoabmbaaGreat
