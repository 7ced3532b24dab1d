/-
  Open.
-/
import Derived.Test.YtkcighejmjgalaaDoorRsm
namespace Go.Proofs.YtkcighejmjgalaaDoor
set_option linter.unusedVariables false
set_option linter.unusedSimpArgs false
set_option synthInstance.maxSize 20000
set_option maxHeartbeats 2000000
set_option maxRecDepth 20000
open Go.RowKit Go.Maps

def OpNew (w : World) (o : Nat → Nat) (j jj js db : Nat) (D : Dk) (r : Ending) (w' : World) : Prop :=
  ∃ o', DIs w' o' j db (cpt D 0 false []).2.2 ∧ Mv [j, jj, js] w o w' o' ∧ (((cpt D 0 false []).1 = 0 ∧ ∃ sb jb, r = .returned (.tuple #[ptr sb, .slice none 0 0, .slice none 0 0, .int .i64 0]) ∧ SAt w' o' js sb db (ptr jb) 1 false ∧ JAt w' o' jj jb db (cpt D 0 false []).2.1) ∨ ((cpt D 0 false []).1 ≠ 0 ∧ r = .returned (.tuple #[.pointer none, .slice none 0 0, .slice none 0 0, .int .i64 (cpt D 0 false []).1])))
def OpOld (w : World) (o : Nat → Nat) (j jj js db : Nat) (D : Dk) (r : Ending) (w' : World) : Prop :=
  ((scan (bgC D (latD D)) (latD D)).1 = [] ∧ r = .returned (.tuple #[.pointer none, .slice none 0 0, .slice none 0 0, .int .i64 4]) ∧ Below w.heap.size w w') ∨
  ((scan (bgC D (latD D)) (latD D)).1 ≠ [] ∧ latest (bgC D (latD D)) (latD D) = 4294967295 ∧ r = .returned (.tuple #[.pointer none, .slice none 0 0, .slice none 0 0, .int .i64 2]) ∧ Below w.heap.size w w') ∨
  (∃ b0 rest v0 v1 sb, (scan (bgC D (latD D)) (latD D)).1 = b0 :: rest ∧ latest (bgC D (latD D)) (latD D) ≠ 4294967295 ∧ r = .returned (.tuple #[ptr sb, v0, v1, .int .i64 0]) ∧ ∃ o' jb, SAt w' o' js sb db (ptr jb) (latD D) false ∧ JAt w' o' jj jb db (openJ (bgC D (latD D)) (hbase D.now.length (latD D)) (hsize D.now.length) (latD D)) ∧ Kp0 w' o' v0 b0 ∧ KL w' o' v1 rest ∧ Mv [js] w o w' o')
section
variable {w : World} {o : Nat → Nat} {j jj js db N : Nat} {D : Dk}
theorem open8_nil (w : World) : Calls Tryd.prog 8 #[.pointer none] w fun r w' => r = .returned (.tuple #[.pointer none, .slice none 0 0, .slice none 0 0, .int .i64 23]) ∧ w' = w := by
  have H : Hid (Calls Tryd.prog 22 #[.pointer none] w fun r w' => r = .returned (.int .i64 23) ∧ w' = w) := wrong22_nil w
  go_enter Tryd.func8, Tryd.ntmps8
  go_wp2_with (go_at_call 22; go_must (refine H.out.mono ?_; rintro r w2 ⟨rfl, hw2⟩; replace hw2 := hw2.symm; subst hw2))
  refine bodyPost_ret (results_tmp4 rfl _ _ _) rfl ⟨rfl, rfl⟩
theorem open8_bad (hD : DIs w o j db D) (hk : wrongS D ≠ 0) : Calls Tryd.prog 8 #[ptr db] w fun r w' => r = .returned (.tuple #[.pointer none, .slice none 0 0, .slice none 0 0, .int .i64 (wrongS D)]) ∧ w' = w := by
  obtain ⟨g, n, p, hD⟩ := hD
  have H : Hid (Calls Tryd.prog 22 #[ptr db] w fun r w' => r = .returned (.int .i64 (wrongS D)) ∧ w' = w) := wrong22 hD
  have hk' : (wrongS D != 0) = true := by simpa using hk
  generalize wrongS D = K at *
  clear hD hk
  go_enter Tryd.func8, Tryd.ntmps8
  go_wp2_with (go_at_call 22; go_must (refine H.out.mono ?_; rintro r w2 ⟨rfl, hw2⟩; replace hw2 := hw2.symm; subst hw2))
  refine bodyPost_ret (results_tmp4 rfl _ _ _) rfl ⟨rfl, rfl⟩
theorem wrongS_zero (h6 : 6 ≤ D.now.length) (hd : D.down = false) : wrongS D = 0 := by
  unfold wrongS
  rw [if_neg (by omega), hd]
  rfl
/-- A new store's block. -/
theorem st_new (w : World) (o : Nat → Nat) (js db : Nat) (num : Int) : SAt (w.alloc (.cells #[ptr db, .pointer none, .int .u32 num, .bool false] 62)) (newBy o w (fun k => if k = w.heap.size then js else 0)) js w.heap.size db (.pointer none) num false ∧ ∀ I, Mv I w o (w.alloc (.cells #[ptr db, .pointer none, .int .u32 num, .bool false] 62)) (newBy o w (fun k => if k = w.heap.size then js else 0)) :=
  ⟨⟨blk_new w (stc db (.pointer none) num false) 62, by rw [newBy_new (Nat.le_refl _), if_pos rfl]⟩, fun I => Mv.of_turn' (ft := []) _ (Turn.of_below (balloc (Below.refl _ _) _)) (fun k hk => by cases hk)⟩
theorem open8_new (hD : DIs w o j db D) (hDk : DOk D N) (hN : N + 86 ≤ 2000) (hT : Tab w) (h0 : o 0 = 0) (h6 : 6 ≤ D.now.length) (hd : D.down = false) (hlat : latD D = 0) (hsj : js ≠ j) (hsjj : js ≠ jj) (hj0 : j ≠ 0) (hjj0 : jj ≠ 0) (hjj : jj ≠ j) :
    Calls Tryd.prog 8 #[ptr db] w fun r w' => OpNew w o j jj js db D r w' := by
  obtain ⟨g, n, p, hD⟩ := hD
  have H22 : Hid (Calls Tryd.prog 22 #[ptr db] w fun r w' => r = .returned (.int .i64 0) ∧ w' = w) := by
    have := wrong22 hD
    rwa [wrongS_zero h6 hd] at this
  have H23 : Hid (Calls Tryd.prog 23 #[ptr db] w fun r w1 => r = .returned (.int .u32 0) ∧ Calls Tryd.prog 10 #[ptr w1.heap.size, .slice none 0 0] (w1.alloc (.cells #[ptr db, .pointer none, .int .u32 0, .bool false] 62)) fun r w' => ∃ kd, r = .returned (.int .i64 kd) ∧ ((kd = 0 ∧ ∀ r, r = .returned (.tuple #[ptr w1.heap.size, .slice none 0 0, .slice none 0 0, .int .i64 0]) → OpNew w o j jj js db D r w') ∨ (kd ≠ 0 ∧ ∀ r, r = .returned (.tuple #[.pointer none, .slice none 0 0, .slice none 0 0, .int .i64 kd]) → OpNew w o j jj js db D r w'))) := by
    have h23 := latest23 hT hD hd (by omega)
    rw [hlat] at h23
    refine h23.mono ?_
    rintro r w1 ⟨rfl, hb1⟩
    refine ⟨rfl, ?_⟩
    have m1 : ∀ I, Mv I w o w1 (newTo o w 0) := fun I => Mv.of_below 0 hb1
    obtain ⟨s2, m2⟩ := st_new w1 (newTo o w 0) js db 0
    have m12 := fun I => (m1 I).trans (m2 I)
    obtain ⟨t2, o2⟩ := hT.mv h0 (m12 []) (by simp)
    have d2 : DIs w o j db D := ⟨g, n, p, hD⟩
    refine (compact10 (l := []) (jj := jj) s2 (d2.mv (m12 []) (by simp)) hDk hN t2 o2 (by omega) (by unfold U32; omega) (rd_nil _) (by simp) hsj hsjj hj0 hjj0 hjj).mono ?_
    rintro r w3 ⟨kd, rfl, ekd, o3, d3, m3, hcs⟩
    refine ⟨kd, rfl, ?_⟩
    rcases hcs with ⟨rfl, _, jb, s3, j3⟩ | ⟨hk, s3⟩
    · refine .inl ⟨rfl, fun r e => ⟨o3, d3, (m12 _).trans m3, .inl ⟨ekd.symm, _, jb, e, s3, j3⟩⟩⟩
    · refine .inr ⟨hk, fun r e => ⟨o3, d3, (m12 _).trans m3, .inr ⟨by rw [← ekd]; exact hk, by rw [← ekd]; exact e⟩⟩⟩
  clear hD hDk hT
  go_enter Tryd.func8, Tryd.ntmps8
  go_wp2_with fail
  refine H22.out.mono ?_
  rintro r w2 ⟨rfl, hw2⟩
  replace hw2 := hw2.symm
  subst hw2
  go_wp2_with fail
  refine H23.out.mono ?_
  rintro r w1 ⟨rfl, HC⟩
  go_wp2_with fail
  refine HC.mono ?_
  rintro r w3 ⟨kd, rfl, hcs⟩
  rcases hcs with ⟨rfl, hp⟩ | ⟨hk, hp⟩
  · have HP : Hid (∀ r, r = .returned (.tuple #[ptr w1.heap.size, .slice none 0 0, .slice none 0 0, .int .i64 0]) → OpNew w o j jj js db D r w3) := hp
    clear hp HC
    go_wp2
    refine bodyPost_ret (results_tmp4 rfl _ _ _) rfl (HP.out _ rfl)
  · have HP : Hid (∀ r, r = .returned (.tuple #[.pointer none, .slice none 0 0, .slice none 0 0, .int .i64 kd]) → OpNew w o j jj js db D r w3) := hp
    have hk' : (kd != 0) = true := by simpa using hk
    clear hp HC hk
    go_wp2
    refine bodyPost_ret (results_tmp4 rfl _ _ _) rfl (HP.out _ rfl)
theorem open8_old (hD : DIs w o j db D) (hDk : DOk D N) (hT : Tab w) (h6 : 6 ≤ D.now.length) (hd : D.down = false) (hlat : latD D ≠ 0) (hs0 : js ≠ 0) (hsjj : js ≠ jj) :
    Calls Tryd.prog 8 #[ptr db] w fun r w' => OpOld w o j jj js db D r w' := by
  obtain ⟨g, n, p, hD⟩ := hD
  have H22 : Hid (Calls Tryd.prog 22 #[ptr db] w fun r w' => r = .returned (.int .i64 0) ∧ w' = w) := by
    have := wrong22 hD
    rwa [wrongS_zero h6 hd] at this
  have hu := latD_u32 D
  have H23 : Hid (Calls Tryd.prog 23 #[ptr db] w fun r w1 => r = .returned (.int .u32 (latD D)) ∧ Calls Tryd.prog 24 #[ptr w1.heap.size] (w1.alloc (.cells #[ptr db, .pointer none, .int .u32 (latD D), .bool false] 62)) fun r w' => ∃ v0 v1 kd, r = .returned (.tuple #[v0, v1, .int .i64 kd]) ∧ ((kd = 0 ∧ ∀ r, r = .returned (.tuple #[ptr w1.heap.size, v0, v1, .int .i64 0]) → OpOld w o j jj js db D r w') ∨ (kd ≠ 0 ∧ ∀ r, r = .returned (.tuple #[.pointer none, .slice none 0 0, .slice none 0 0, .int .i64 kd]) → OpOld w o j jj js db D r w'))) := by
    refine (latest23 hT hD hd (by omega)).mono ?_
    rintro r w1 ⟨rfl, hb1⟩
    refine ⟨rfl, ?_⟩
    have m1 : ∀ I, Mv I w o w1 (newTo o w 0) := fun I => Mv.of_below 0 hb1
    obtain ⟨s2, m2⟩ := st_new w1 (newTo o w 0) js db (latD D)
    have m12 := fun I => (m1 I).trans (m2 I)
    have d2 : DIs w o j db D := ⟨g, n, p, hD⟩
    have hb12 : Below w.heap.size w (w1.alloc (.cells #[ptr db, .pointer none, .int .u32 (latD D), .bool false] 62)) := balloc hb1 _
    refine (resume24 (jj := jj) s2 (d2.mv (m12 []) (by simp)) hd h6 hDk.few hu hlat hs0 hsjj).mono ?_
    rintro r w3 hcs
    rcases hcs with ⟨e1, rfl, hb3⟩ | ⟨e1, e2, rfl, hb3⟩ | ⟨b0, rest, v0, v1, e1, e2, rfl, o3, jb, s3, j3, k0, k1, m3⟩
    · exact ⟨_, _, 4, rfl, .inr ⟨by omega, fun r e => .inl ⟨e1, e, bnext hb12 hb3⟩⟩⟩
    · exact ⟨_, _, 2, rfl, .inr ⟨by omega, fun r e => .inr (.inl ⟨e1, e2, e, bnext hb12 hb3⟩)⟩⟩
    · exact ⟨_, _, 0, rfl, .inl ⟨rfl, fun r e => .inr (.inr ⟨b0, rest, v0, v1, _, e1, e2, e, o3, jb, s3, j3, k0, k1, (m12 _).trans m3⟩)⟩⟩
  have hl0 : (latD D == 0) = false := by simpa using hlat
  generalize hLD : latD D = LD at *
  obtain ⟨OP, hOP⟩ : ∃ OP, OpOld w o j jj js db D = OP := ⟨_, rfl⟩
  rw [hOP] at H23 ⊢
  clear hD hDk hT hlat hLD hu hOP
  go_enter Tryd.func8, Tryd.ntmps8
  go_wp2_with fail
  refine H22.out.mono ?_
  rintro r w2 ⟨rfl, hw2⟩
  replace hw2 := hw2.symm
  subst hw2
  go_wp2_with fail
  refine H23.out.mono ?_
  rintro r w1 ⟨rfl, HC⟩
  go_wp2_with fail
  refine HC.mono ?_
  rintro r w3 ⟨v0, v1, kd, rfl, hcs⟩
  rcases hcs with ⟨rfl, hp⟩ | ⟨hk, hp⟩
  · have HP : Hid (∀ r, r = .returned (.tuple #[ptr w1.heap.size, v0, v1, .int .i64 0]) → OP r w3) := hp
    clear hp HC
    go_wp2
    refine bodyPost_ret (results_tmp4 rfl _ _ _) rfl (HP.out _ rfl)
  · have HP : Hid (∀ r, r = .returned (.tuple #[.pointer none, .slice none 0 0, .slice none 0 0, .int .i64 kd]) → OP r w3) := hp
    have hk' : (kd != 0) = true := by simpa using hk
    clear hp HC hk
    go_wp2
    refine bodyPost_ret (results_tmp4 rfl _ _ _) rfl (HP.out _ rfl)
end
end Go.Proofs.YtkcighejmjgalaaDoor
