/-
  Compact.
-/
import Derived.Test.YtkcighejmjgalaaDoorBgn4
namespace Go.Proofs.YtkcighejmjgalaaDoor
set_option linter.unusedVariables false
set_option linter.unusedSimpArgs false
set_option synthInstance.maxSize 20000
set_option maxHeartbeats 2000000
set_option maxRecDepth 20000
open Go.RowKit Go.Maps

def cpt (D : Dk) (num : Int) (f : Bool) (l : List Int) : Int × Jk × Dk := if refK D.now.length num f l.length ≠ 0 then (refK D.now.length num f l.length, bgJ D num, D) else bgn D (num + 1) l
def CpPost (w : World) (o : Nat → Nat) (j jj js sb db : Nat) (jv : Value) (D : Dk) (num : Int) (f : Bool) (l : List Int) (kd : Int) (w' : World) : Prop :=
  kd = (cpt D num f l).1 ∧ ∃ o', DIs w' o' j db (cpt D num f l).2.2 ∧ Mv [j, jj, js] w o w' o' ∧ ((kd = 0 ∧ f = false ∧ ∃ jb, SAt w' o' js sb db (ptr jb) (num + 1) false ∧ JAt w' o' jj jb db (cpt D num f l).2.1) ∨ (kd ≠ 0 ∧ SAt w' o' js sb db jv num (if refK D.now.length num f l.length ≠ 0 then f else decide (kd = 19))))
theorem refK_zero {m : Nat} {num : Int} {f : Bool} {len : Nat} (h : refK m num f len = 0) : len ≤ 4000 ∧ f = false ∧ num ≠ 4294967295 ∧ partsN len ≤ hsize m := by
  unfold refK at h
  split at h
  · cases h
  · split at h
    · cases h
    · split at h
      · cases h
      · split at h
        · cases h
        · rename_i h1 h2 h3 h4
          exact ⟨by omega, by simpa using h2, h3, by omega⟩
section
variable {w : World} {o : Nat → Nat} {j jj js sb db N : Nat} {jv : Value} {num : Int} {f : Bool} {bv : Value} {l : List Int} {D : Dk}
theorem compact10 (hS : SAt w o js sb db jv num f) (hD : DIs w o j db D) (hDk : DOk D N) (hN : N + 86 ≤ 2000) (hT : Tab w) (h0 : o 0 = 0) (h2 : 2 ≤ D.now.length) (hn : U32 num) (hb : Rd w bv l) (hl : l.length ≤ 1000000)
    (hsj : js ≠ j) (hsjj : js ≠ jj) (hj0 : j ≠ 0) (hjj0 : jj ≠ 0) (hjj : jj ≠ j) :
    Calls Tryd.prog 10 #[ptr sb, bv] w fun r w' => ∃ kd, r = .returned (.int .i64 kd) ∧ CpPost w o j jj js sb db jv D num f l kd w' := by
  have H25 := refusal25 hS.blk hD h2 hDk.few hn hb hl
  by_cases hr : refK D.now.length num f l.length = 0
  · obtain ⟨r1, rf, r3, r4⟩ := refK_zero hr
    subst rf
    rw [hr] at H25
    have ecp : cpt D num false l = bgn D (num + 1) l := by unfold cpt; rw [if_neg (by simp [hr])]
    have hn1 : 0 ≤ num := hn.1
    have hn2 : num < 4294967295 := by have := hn.2; omega
    have HC : Hid (Calls Tryd.prog 25 #[ptr sb, bv] w fun r w1 => r = .returned (.int .i64 0) ∧ w1.cell? ⟨sb, 2, none⟩ = some (.int .u32 num) ∧
      Calls Tryd.prog 26 #[ptr sb, .int .u32 (num + 1), bv] w1 fun r w2 => ∃ pa kd, r = .returned (.tuple #[.pointer pa, .int .i64 kd]) ∧
      Calls Tryd.prog 27 #[ptr sb, .int .i64 kd] w2 fun r w3 => r = .returned (.tuple #[]) ∧ ((kd = 0 ∧ w3.cell? ⟨sb, 1, none⟩ = some jv ∧ w3.frozen? ⟨sb, 1, none⟩ = false ∧ w3.cell? ⟨sb, 2, none⟩ = some (.int .u32 num) ∧ w3.frozen? ⟨sb, 2, none⟩ = false ∧ CpPost w o j jj js sb db jv D num false l 0 ((w3.setCell ⟨sb, 1, none⟩ (.pointer pa)).setCell ⟨sb, 2, none⟩ (.int .u32 (num + 1)))) ∨
        (kd ≠ 0 ∧ CpPost w o j jj js sb db jv D num false l kd w3))) := by
      refine H25.mono ?_
      rintro r w1 ⟨rfl, hb1⟩
      have m1 : ∀ I, Mv I w o w1 (newTo o w 0) := fun I => Mv.of_below 0 hb1
      have s1 := hS.mv (m1 []) (by simp)
      obtain ⟨t1, o1⟩ := hT.mv h0 (m1 []) (by simp)
      refine ⟨rfl, s1.blk.cell 2 _ rfl, ?_⟩
      refine (begin26 s1 (hD.mv (m1 []) (by simp)) hDk hN t1 o1 h2 (n := num + 1) (by unfold U32; omega) (by omega) (hb.below hb1) hl hsj hsjj hj0 hjj0 hjj).mono ?_
      rintro r w2 ⟨v, kd, rfl, ekd, o2, d2, m2, hcs⟩
      have s2 := s1.mv m2 (by simp; exact ⟨hsj, hsjj⟩)
      obtain ⟨pa, rfl⟩ : ∃ pa, v = .pointer pa := by
        rcases hcs with ⟨_, jb, rfl, _⟩ | ⟨_, rfl⟩
        · exact ⟨_, rfl⟩
        · exact ⟨_, rfl⟩
      refine ⟨pa, kd, rfl, ?_⟩
      refine (note27 s2 kd).mono ?_
      rintro r w3 ⟨rfl, s3, m3⟩
      have d3 := d2.mv m3 (by simpa using hsj.symm)
      have m13 : Mv [j, jj, js] w o w3 o2 := (m1 _).trans ((m2.widen (by simp)).trans (m3.widen (by simp)))
      refine ⟨rfl, ?_⟩
      rcases hcs with ⟨rfl, jb, hv, j2⟩ | ⟨hk, hv⟩
      · refine .inl ⟨rfl, s3.blk.cell 1 _ rfl, s3.blk.frozen 1, s3.blk.cell 2 _ rfl, s3.blk.frozen 2, ?_⟩
        have hB := (s3.blk.set 1 (.pointer pa)).set 2 (.int .u32 (num + 1))
        have hG : w3.grownBy ((w3.setCell ⟨sb, 1, none⟩ (.pointer pa)).setCell ⟨sb, 2, none⟩ (.int .u32 (num + 1))) (some sb) := grown_trans (grown_setCell _ _ _ _) (grown_setCell _ _ _ _) (fun k hk => .inl hk)
        obtain ⟨s4, m4⟩ := s3.set (jv' := .pointer pa) (num' := num + 1) (f' := false) hG (by simpa [stc] using hB)
        rw [hv] at s4
        rw [hv] at m4
        unfold CpPost
        rw [ecp, hv]
        exact ⟨ekd, o2, d3.mv m4 (by simpa using hsj.symm), m13.trans (m4.widen (by simp)), .inl ⟨rfl, rfl, jb, s4, (j2.mv m3 (by simpa using hsjj.symm)).mv m4 (by simpa using hsjj.symm)⟩⟩
      · refine .inr ⟨hk, ?_⟩
        unfold CpPost
        rw [ecp, if_neg (by simp [hr])]
        exact ⟨ekd, o2, d3, m13, .inr ⟨hk, by simpa using s3⟩⟩
    obtain ⟨ab, cb, rfl⟩ := hb.len
    clear H25 hS hD hDk hT hb ecp hn
    go_enter Tryd.func10, Tryd.ntmps10
    go_wp2_with fail
    refine HC.out.mono ?_
    rintro r w1 ⟨rfl, l2, HC1⟩
    go_wp2_with fail
    refine HC1.mono ?_
    rintro r w2 ⟨pa, kd, rfl, HC2⟩
    clear l2
    go_wp2_with fail
    refine HC2.mono ?_
    rintro r w3 ⟨rfl, hcs⟩
    rcases hcs with ⟨rfl, l1, l2, l3, l4, hp⟩ | ⟨hk, hp⟩
    · have HP : Hid (CpPost w o j jj js sb db jv D num false l 0 ((w3.setCell ⟨sb, 1, none⟩ (.pointer pa)).setCell ⟨sb, 2, none⟩ (.int .u32 (num + 1)))) := hp
      clear hp HC1 HC2
      go_wp2
      go_ret
      exact ⟨_, rfl, HP.out⟩
    · have HP : Hid (CpPost w o j jj js sb db jv D num false l kd w3) := hp
      have hk' : (kd == 0) = false := by simpa using hk
      clear hp HC1 HC2 hk
      go_wp2
      go_ret
      exact ⟨_, rfl, HP.out⟩
  · have HC : Hid (Calls Tryd.prog 25 #[ptr sb, bv] w fun r w1 => r = .returned (.int .i64 (refK D.now.length num f l.length)) ∧ CpPost w o j jj js sb db jv D num f l (refK D.now.length num f l.length) w1) := by
      refine H25.mono ?_
      rintro r w1 ⟨rfl, hb1⟩
      have ecp : cpt D num f l = (refK D.now.length num f l.length, bgJ D num, D) := by unfold cpt; rw [if_pos hr]
      refine ⟨rfl, ?_⟩
      unfold CpPost
      rw [ecp, if_pos hr]
      exact ⟨rfl, _, hD.mv (Mv.of_below (I := []) 0 hb1) (by simp), Mv.of_below 0 hb1, .inr ⟨hr, hS.mv (Mv.of_below (I := []) 0 hb1) (by simp)⟩⟩
    obtain ⟨ab, cb, rfl⟩ := hb.len
    have hr' : (refK D.now.length num f l.length != 0) = true := by simpa using hr
    generalize refK D.now.length num f l.length = K at *
    clear H25 hS hD hDk hT hb hr
    go_enter Tryd.func10, Tryd.ntmps10
    go_wp2_with fail
    refine HC.out.mono ?_
    rintro r w1 ⟨rfl, hp⟩
    have HP : Hid (CpPost w o j jj js sb db jv D num f l K w1) := hp
    clear hp
    go_wp2
    go_ret
    exact ⟨_, rfl, HP.out⟩
end
end Go.Proofs.YtkcighejmjgalaaDoor
