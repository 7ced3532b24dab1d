/-
  resume.
-/
import Derived.Test.YtkcighejmjgalaaDoorCpt
namespace Go.Proofs.YtkcighejmjgalaaDoor
set_option linter.unusedVariables false
set_option linter.unusedSimpArgs false
set_option synthInstance.maxSize 20000
set_option maxHeartbeats 2000000
set_option maxRecDepth 20000
open Go.RowKit Go.Maps

theorem kl_uncons {w : World} {o : Nat → Nat} {v : Value} {b0 : List Int} {rest : List (List Int)} (h : KL w o v (b0 :: rest)) : ∃ bb off cap v0, v = .slice (some ⟨bb, off, none⟩) (rest.length + 1) cap ∧ rest.length + 1 ≤ cap ∧ cap ≤ 9223372036854775807 ∧ w.cell? ⟨bb, off, none⟩ = some v0 ∧ Kp0 w o v0 b0 ∧ (cap = 1 → KL w o (.slice (some ⟨bb, off, none⟩) 0 0) rest) ∧ (¬ cap = 1 → KL w o (.slice (some ⟨bb, off + 1, none⟩) rest.length (cap - 1)) rest) := by
  obtain ⟨qs, h1, h2⟩ := h
  match qs, h1, h2 with
  | [], _, h2 => cases h2
  | q :: qs, h1, h2 =>
    have e1 : q.2 = b0 := (List.cons.inj h2).1
    have e2 : LL qs = rest := (List.cons.inj h2).2
    have e3 : rest.length = qs.length := by rw [← e2, LL_len]
    obtain ⟨a, cap, rfl⟩ := h1.rl.len
    have hcap := h1.rl.row.caps
    obtain ⟨bb, off, rfl, hc⟩ := h1.rl.at (i := 0) (q := q) rfl
    rw [Nat.add_zero] at hc
    have hr := h1.rl.rd q (List.mem_cons_self ..)
    have hrow := h1.row (List.cons_ne_nil _ _)
    refine ⟨bb, off, cap, q.1, by rw [e3]; rfl, by rw [e3]; exact hcap.2.1, hcap.2.2, hc, ⟨by rw [← e1]; exact hr, fun hl k hk => h1.el q (List.mem_cons_self ..) (by rw [e1]; exact hl) k hk⟩, fun hc1 => ?_, fun hc1 => ?_⟩
    · subst hc1
      have := rl_drop0 (s := 1) h1.rl (by simp)
      exact ⟨qs, ⟨this, fun _ k hk => hrow k hk, fun q' hq' => h1.el q' (List.mem_cons_of_mem _ hq')⟩, e2⟩
    · have := rl_drop (s := 1) h1.rl (by simp) hc1
      rw [Option.map_some, Addr.add_lit] at this
      refine ⟨qs, ⟨?_, fun _ k hk => hrow k hk, fun q' hq' => h1.el q' (List.mem_cons_of_mem _ hq')⟩, e2⟩
      rw [e3]
      simpa using this
def RsPost (w : World) (o : Nat → Nat) (j jj js sb db : Nat) (num : Int) (f : Bool) (D : Dk) (r : Ending) (w' : World) : Prop :=
  ((scan (bgC D num) num).1 = [] ∧ r = .returned (.tuple #[.slice none 0 0, .slice none 0 0, .int .i64 4]) ∧ Below w.heap.size w w') ∨
  ((scan (bgC D num) num).1 ≠ [] ∧ latest (bgC D num) num = 4294967295 ∧ r = .returned (.tuple #[.slice none 0 0, .slice none 0 0, .int .i64 2]) ∧ Below w.heap.size w w') ∨
  (∃ b0 rest v0 v1, (scan (bgC D num) num).1 = b0 :: rest ∧ latest (bgC D num) num ≠ 4294967295 ∧ r = .returned (.tuple #[v0, v1, .int .i64 0]) ∧ ∃ o' jb, SAt w' o' js sb db (ptr jb) num f ∧ JAt w' o' jj jb db (openJ (bgC D num) (hbase D.now.length num) (hsize D.now.length) num) ∧ Kp0 w' o' v0 b0 ∧ KL w' o' v1 rest ∧ Mv [js] w o w' o')
structure CW (b off : Nat) (v : Value) (w : World) : Prop where
  c : w.cell? ⟨b, off, none⟩ = some v
section
variable {w : World} {o : Nat → Nat} {j jj js sb db : Nat} {jv : Value} {num : Int} {f : Bool} {D : Dk}
theorem resume24 (hS : SAt w o js sb db jv num f) (hD : DIs w o j db D) (hd : D.down = false) (h6 : 6 ≤ D.now.length) (hl4 : D.now.length ≤ 400) (hn : U32 num) (hn0 : num ≠ 0) (hj0 : js ≠ 0) (hsjj : js ≠ jj) :
    Calls Tryd.prog 24 #[ptr sb] w fun r w' => RsPost w o j jj js sb db num f D r w' := by
  have hfit := hbase_fits num (show 2 ≤ D.now.length by omega)
  have hsz := hsize_pos h6
  have hwk : wrongK D (hbase D.now.length num : Int) (hsize D.now.length : Int) num = 0 := by
    unfold wrongK
    rw [if_neg (by omega), if_neg (by omega), hd]
    rfl
  have HSw : Hid (∀ w', Below w.heap.size w w' → SW sb db jv num f D w') := fun w' hb => ⟨hS.blk.below hb, _, _, hD.below hb⟩
  have HH : Hid (∀ w', Below w.heap.size w w' → Calls Tryd.prog 43 #[ptr db, .int .u32 num] w' fun r w'' => r = .returned (.tuple #[.int .i64 (hbase D.now.length num : Int), .int .i64 (hsize D.now.length : Int)]) ∧ w'' = w') := fun w' hb => by
    obtain ⟨g, nv, p, d⟩ := hD.below hb
    exact half43 d (by omega) hl4 hn
  have H45 : Hid (∀ w', Below w.heap.size w w' → Calls Tryd.prog 45 #[ptr db, .int .i64 (hbase D.now.length num : Int), .int .i64 (hsize D.now.length : Int)] w' fun r w2 => ∃ v, r = .returned v ∧ (∃ a n c, v = .slice a n c) ∧ Below w.heap.size w w2 ∧ Calls Tryd.prog 44 #[v, .int .u32 num] w2 fun r w3 => ∃ a c t lt, r = .returned (.tuple #[.slice a (scan (bgC D num) num).1.length c, .int .i64 (t : Nat), .int .u32 lt]) ∧ c ≤ 9223372036854775807 ∧ Below w.heap.size w w3) := fun w' hb => by
    refine (ssect45 (hD.below hb) hd (by omega) hl4).mono ?_
    rintro r w2 ⟨v, rfl, ⟨qs, q1, q2, q3⟩, hb2⟩
    have hql : qs.length = hsize D.now.length := by rw [← LL_len, q2, cont_len (by omega)]
    have h44 := scan17 (gen := num) q1 (by omega) hn
    obtain ⟨a, c, rfl⟩ := q1.len
    refine ⟨_, rfl, ⟨_, _, _, rfl⟩, bnext hb hb2, ?_⟩
    rw [q2] at h44
    refine h44.mono ?_
    rintro r w3 ⟨v', rfl, ⟨ps, p1, p2, p3⟩, hb3⟩
    have hcp := p1.row
    obtain ⟨a', c', rfl⟩ := p1.len
    refine ⟨a', c', (scan (bgC D num) num).2, latest (bgC D num) num, ?_, hcp.caps.2.2, bnext (bnext hb hb2) hb3⟩
    rw [← LL_len, p2]
    rfl
  have H46 : Hid (∀ w', Below w.heap.size w w' → Calls Tryd.prog 46 #[ptr db, .int .i64 (hbase D.now.length num : Int), .int .i64 (hsize D.now.length : Int), .int .u32 num] w' fun r w2 =>
      (latest (bgC D num) num = 4294967295 ∧ r = .returned (.tuple #[.pointer none, .slice none 0 0, .int .i64 2]) ∧ Below w.heap.size w w2) ∨
      (latest (bgC D num) num ≠ 4294967295 ∧ ∃ jb v, r = .returned (.tuple #[ptr jb, v, .int .i64 0]) ∧ ∃ o2, JAt w2 o2 jj jb db (openJ (bgC D num) (hbase D.now.length num) (hsize D.now.length) num) ∧ KL w2 o2 v (scan (bgC D num) num).1 ∧ Mv [] w o w2 o2)) := fun w' hb => by
    by_cases hlt : latest (bgC D num) num = 4294967295
    · refine (open_range (hD.below hb) hl4 hn hwk hlt).mono ?_
      rintro r w2 ⟨rfl, hb2⟩
      exact .inl ⟨hlt, rfl, bnext hb hb2⟩
    · refine (open_ok (hD.below hb) hl4 hn hwk hlt jj).mono ?_
      rintro r w2 ⟨jb, v, rfl, o2, j2, k2, m2, _⟩
      exact .inr ⟨hlt, jb, v, rfl, o2, j2, k2, (Mv.of_below 0 hb).trans m2⟩
  have HFin : Hid (∀ w2 o2 jb v, JAt w2 o2 jj jb db (openJ (bgC D num) (hbase D.now.length num) (hsize D.now.length) num) → KL w2 o2 v (scan (bgC D num) num).1 → Mv [] w o w2 o2 → (scan (bgC D num) num).1 ≠ [] → latest (bgC D num) num ≠ 4294967295 →
      w2.cell? ⟨sb, 1, none⟩ = some jv ∧ w2.frozen? ⟨sb, 1, none⟩ = false ∧ ∃ bb off n cap v0, v = .slice (some ⟨bb, off, none⟩) n cap ∧ 1 ≤ n ∧ n ≤ cap ∧ cap ≤ 9223372036854775807 ∧ (w2.setCell ⟨sb, 1, none⟩ (ptr jb)).cell? ⟨bb, off, none⟩ = some v0 ∧
        (cap = 1 → RsPost w o j jj js sb db num f D (.returned (.tuple #[v0, .slice (some ⟨bb, off, none⟩) 0 0, .int .i64 0])) ((w2.setCell ⟨sb, 1, none⟩ (ptr jb)).drew)) ∧ (¬ cap = 1 → RsPost w o j jj js sb db num f D (.returned (.tuple #[v0, .slice (some ⟨bb, off + 1, none⟩) (n - 1) (cap - 1), .int .i64 0])) ((w2.setCell ⟨sb, 1, none⟩ (ptr jb)).drew))) := fun w2 o2 jb v hj hk hm hne hlt => by
    have s2 := hS.mv hm (by simp)
    have hB := s2.blk.set 1 (ptr jb)
    obtain ⟨s3, m3⟩ := s2.set (jv' := ptr jb) (num' := num) (f' := f) (grown_setCell _ _ _ _) (by simpa [stc] using hB)
    obtain ⟨b0, rest, hs⟩ : ∃ b0 rest, (scan (bgC D num) num).1 = b0 :: rest := by
      cases h9 : (scan (bgC D num) num).1 with
      | nil => exact absurd h9 hne
      | cons b r => exact ⟨b, r, rfl⟩
    have k3 := hk.mv m3 (by simpa using hj0.symm)
    rw [hs] at k3
    obtain ⟨bb, off, cap, v0, rfl, hc1, hc2, hcl, hkp, ha, hb'⟩ := kl_uncons k3
    have j3 := hj.mv m3 (by simpa using hsjj.symm)
    have md : Mv [] (w2.setCell ⟨sb, 1, none⟩ (ptr jb)) o2 (w2.setCell ⟨sb, 1, none⟩ (ptr jb)).drew o2 := mv_drewn _ _
    have hmv : Mv [js] w o (w2.setCell ⟨sb, 1, none⟩ (ptr jb)).drew o2 := ((hm.widen (by simp)).trans m3).trans (md.widen (by simp))
    refine ⟨s2.blk.cell 1 _ rfl, s2.blk.frozen 1, bb, off, rest.length + 1, cap, v0, rfl, by omega, hc1, hc2, hcl, fun e => ?_, fun e => ?_⟩
    · exact .inr (.inr ⟨b0, rest, v0, _, hs, hlt, rfl, o2, jb, s3.mv md (by simp), j3.mv md (by simp), hkp.mv md (by simp), (ha e).mv md (by simp), hmv⟩)
    · exact .inr (.inr ⟨b0, rest, v0, _, hs, hlt, rfl, o2, jb, s3.mv md (by simp), j3.mv md (by simp), hkp.mv md (by simp), (hb' e).mv md (by simp), hmv⟩)
  have HR1 : Hid ((scan (bgC D num) num).1 = [] → ∀ w', Below w.heap.size w w' → RsPost w o j jj js sb db num f D (.returned (.tuple #[.slice none 0 0, .slice none 0 0, .int .i64 4])) w') := fun e w' hb => .inl ⟨e, rfl, hb⟩
  have HR2 : Hid ((scan (bgC D num) num).1 ≠ [] → latest (bgC D num) num = 4294967295 → ∀ w', Below w.heap.size w w' → RsPost w o j jj js sb db num f D (.returned (.tuple #[.slice none 0 0, .slice none 0 0, .int .i64 2])) w') := fun e e2 w' hb => .inr (.inl ⟨e, e2, rfl, hb⟩)
  have HD0 : Hid (Below w.heap.size w w.drew) := (Below.refl _ _).drew
  have e0 : ∀ z : WIn (SW sb db jv num f D), z.w.cell? ⟨sb, 0, none⟩ = some (ptr db) := fun z => z.ok.blk.cell 0 _ rfl
  have e2 : ∀ z : WIn (SW sb db jv num f D), z.w.cell? ⟨sb, 2, none⟩ = some (.int .u32 num) := fun z => z.ok.blk.cell 2 _ rfl
  have ne : Nonempty (WIn (SW sb db jv num f D)) := ⟨⟨w, HSw.out w (Below.refl _ _)⟩⟩
  have HDr : Hid (∀ w', Below w.heap.size w w' → Below w.heap.size w w'.drew) := fun w' h => h.drew
  generalize hRP : RsPost w o j jj js sb db num f D = RP at *
  obtain ⟨SC, hSC⟩ : ∃ SC, (scan (bgC D num) num).1 = SC := ⟨_, rfl⟩
  obtain ⟨LT, hLT⟩ : ∃ LT, latest (bgC D num) num = LT := ⟨_, rfl⟩
  obtain ⟨OJ, hOJ⟩ : ∃ OJ, openJ (bgC D num) (hbase D.now.length num) (hsize D.now.length) num = OJ := ⟨_, rfl⟩
  rw [hSC, hLT, hOJ] at H46 HFin
  rw [hSC] at H45 HR1
  rw [hSC, hLT] at HR2
  have hbs4 : hbase D.now.length num ≤ 400 := by omega
  have hsz4 : hsize D.now.length ≤ 400 := by omega
  generalize hbase D.now.length num = base at *
  generalize hsize D.now.length = size at *
  obtain ⟨m, hm⟩ : ∃ m, m = SC.length := ⟨_, rfl⟩
  rw [← hm] at H45
  have HM : Hid (m = SC.length) := hm
  clear hS hD hwk hfit hsz hRP hSC hLT hOJ hm hd
  go_enter Tryd.func24, Tryd.ntmps24
  go_upto_region 1 with fail
  refine wp_region_tree (C := fun w' => ∃ z : WIn (SW sb db jv num f D), w' = z.w) (.still 0 (.still 1 (.still 2 (.still 3 (.still 4 (.still 5 (.still 6 (.still 7 (.one 8 (.still 9 (.still 10 (.still 11 (.still 12 (.still 13 .done)))))))))))))) (by kernel_rfl) (by kernel_rfl) ⟨⟨w.drew, HSw.out _ HD0.out⟩, rfl⟩ ?_
  generalize w.drew = wd at *
  iterate 8 (refine tree_still rfl rfl ?_; go_big_quiet_step (fail); refine wpQuiet_nil ?_)
  refine tree_one rfl rfl ?_
  go_simp
  refine (HH.out wd HD0.out).mono ?_
  rintro r w1 ⟨rfl, hw1⟩
  replace hw1 := hw1.symm
  subst hw1
  refine ⟨⟨⟨_, HSw.out _ HD0.out⟩, rfl⟩, ?_⟩
  iterate 5 (refine tree_still rfl rfl ?_; go_big_quiet_step (fail); refine wpQuiet_nil ?_)
  refine tree_done ?_
  go_upto_region 2 with fail
  have HD1 : Hid (Below w.heap.size w wd.drew) := HDr.out wd HD0.out
  refine wp_region_tree (C := fun w' => ∃ z : WIn (SW sb db jv num f D), w' = z.w) (.still 0 (.still 1 (.still 2 (.still 3 (.still 4 (.still 5 (.still 7 (.still 8 (.still 9 (.still 10 (.one 6 (.one 11 (.still 12 (.still 13 (.still 14 (.still 15 (.still 16 (.still 17 (.still 18 .done))))))))))))))))))) (by kernel_rfl) (by kernel_rfl) ⟨⟨wd.drew, HSw.out _ HD1.out⟩, rfl⟩ ?_
  generalize wd.drew = we at *
  iterate 10 (refine tree_still rfl rfl ?_; go_big_quiet_step (fail); refine wpQuiet_nil ?_)
  refine tree_one rfl rfl ?_
  go_simp
  refine (H45.out we HD1.out).mono ?_
  rintro r w2 ⟨v2, rfl, ⟨a2, n2, c2, rfl⟩, hb2, HC2⟩
  have HB2 : Hid (Below w.heap.size w w2) := hb2
  have HC2' : Hid (Calls Tryd.prog 44 #[.slice a2 n2 c2, .int .u32 num] w2 fun r w3 => ∃ a c t lt, r = .returned (.tuple #[.slice a m c, .int .i64 (t : Nat), .int .u32 lt]) ∧ c ≤ 9223372036854775807 ∧ Below w.heap.size w w3) := HC2
  clear hb2 HC2
  refine ⟨⟨⟨_, HSw.out _ HB2.out⟩, rfl⟩, ?_⟩
  refine tree_one rfl rfl ?_
  go_simp
  refine HC2'.out.mono ?_
  rintro r w3 ⟨a3, c3, t3, lt3, rfl, hc3, hb3⟩
  have HB3 : Hid (Below w.heap.size w w3) := hb3
  clear hb3
  refine ⟨⟨⟨_, HSw.out _ HB3.out⟩, rfl⟩, ?_⟩
  iterate 7 (refine tree_still rfl rfl ?_; go_big_quiet_step (fail); refine wpQuiet_nil ?_)
  refine tree_done ?_
  by_cases hem : m = 0
  · have hSC0 : SC = [] := List.eq_nil_of_length_eq_zero (by rw [← HM.out]; exact hem)
    have HP : Hid (∀ r, r = .returned (.tuple #[.slice none 0 0, .slice none 0 0, .int .i64 4]) → RP r w3) := fun r e => by subst e; exact HR1.out hSC0 w3 HB3.out
    subst hem
    clear hSC0 e0 e2 ne
    go_wp2
    refine bodyPost_ret (results_tmp3 rfl _ _ _) rfl (HP.out _ rfl)
  · have HNe : Hid (SC ≠ []) := fun e => hem (by rw [HM.out, e]; rfl)
    have hm1 : 1 ≤ m := by omega
    have hm0 : ((m : Int) == 0) = false := by simp; omega
    clear hem
    go_upto_region 5 with fail
    have HD3 : Hid (Below w.heap.size w w3.drew) := HDr.out w3 HB3.out
    refine wp_region_tree (C := fun w' => ∃ z : WIn (SW sb db jv num f D), w' = z.w) (.still 0 (.still 1 (.still 2 (.still 3 (.still 4 (.still 5 (.still 6 (.still 7 (.still 8 (.still 9 (.one 10 (.still 11 (.still 12 (.still 13 (.still 14 (.still 15 (.still 16 (.still 17 .done)))))))))))))))))) (by kernel_rfl) (by kernel_rfl) ⟨⟨w3.drew, HSw.out _ HD3.out⟩, rfl⟩ ?_
    generalize w3.drew = wf at *
    iterate 10 (refine tree_still rfl rfl ?_; go_big_quiet_step (fail); refine wpQuiet_nil ?_)
    refine tree_one rfl rfl ?_
    go_simp
    refine (H46.out wf HD3.out).mono ?_
    rintro r w4 hcs
    rcases hcs with ⟨hlt, rfl, hb4⟩ | ⟨hlt, jb, v4, rfl, o4, j4, k4, m4⟩
    · have HP : Hid (∀ r, r = .returned (.tuple #[.slice none 0 0, .slice none 0 0, .int .i64 2]) → RP r w4) := fun r e => by subst e; exact HR2.out HNe.out hlt w4 hb4
      have HS4 : Hid (SW sb db jv num f D w4) := HSw.out _ hb4
      clear hb4 hlt
      refine ⟨⟨⟨_, HS4.out⟩, rfl⟩, ?_⟩
      iterate 7 (refine tree_still rfl rfl ?_; go_big_quiet_step (fail); refine wpQuiet_nil ?_)
      refine tree_done ?_
      clear e0 e2 ne
      go_wp2
      refine bodyPost_ret (results_tmp3 rfl _ _ _) rfl (HP.out _ rfl)
    · obtain ⟨l1, l2, bb, off, n5, cap, v0, rfl, hn51, hn52, hn53, hcl, hp1, hp2⟩ := HFin.out w4 o4 jb v4 j4 k4 m4 HNe.out hlt
      have hb4 : Below w.heap.size w w4 := m4.below (Nat.le_refl _) (fun k _ => by simp)
      have HS4 : Hid (SW sb db jv num f D w4) := HSw.out _ hb4
      have HP1 : Hid (cap = 1 → RP (.returned (.tuple #[v0, .slice (some ⟨bb, off, none⟩) 0 0, .int .i64 0])) ((w4.setCell ⟨sb, 1, none⟩ (ptr jb)).drew)) := hp1
      have HP2 : Hid (¬ cap = 1 → RP (.returned (.tuple #[v0, .slice (some ⟨bb, off + 1, none⟩) (n5 - 1) (cap - 1), .int .i64 0])) ((w4.setCell ⟨sb, 1, none⟩ (ptr jb)).drew)) := hp2
      have HCl : Hid ((w4.setCell ⟨sb, 1, none⟩ (ptr jb)).cell? ⟨bb, off, none⟩ = some v0) := hcl
      clear hp1 hp2 hb4 j4 k4 m4 hlt hcl
      refine ⟨⟨⟨_, HS4.out⟩, rfl⟩, ?_⟩
      iterate 7 (refine tree_still rfl rfl ?_; go_big_quiet_step (fail); refine wpQuiet_nil ?_)
      refine tree_done ?_
      clear e0 e2 ne
      go_upto_region 9 with fail
      have hn54 : (n5 : Int) ≤ (cap : Int) := by omega
      have e5 : ∀ z : WIn (CW bb off v0), z.w.cell? ⟨bb, off, none⟩ = some v0 := fun z => z.ok.c
      have HCd : Hid (CW bb off v0 (w4.setCell ⟨sb, 1, none⟩ (ptr jb)).drew) := ⟨HCl.out⟩
      have ne5 : Nonempty (WIn (CW bb off v0)) := ⟨⟨_, HCd.out⟩⟩
      refine wp_region_tree (C := fun w' => ∃ z : WIn (CW bb off v0), w' = z.w) (.still 0 (.still 1 (.still 2 (.still 3 (.still 4 (.still 5 (.still 6 (.still 7 .done)))))))) (by kernel_rfl) (by kernel_rfl) ⟨⟨_, HCd.out⟩, rfl⟩ ?_
      by_cases hc1 : cap = 1
      · have HP : Hid (∀ r, r = .returned (.tuple #[v0, .slice (some ⟨bb, off, none⟩) 0 0, .int .i64 0]) → RP r ((w4.setCell ⟨sb, 1, none⟩ (ptr jb)).drew)) := fun r e => by subst e; exact HP1.out hc1
        subst hc1
        obtain rfl : n5 = 1 := by omega
        generalize (w4.setCell ⟨sb, 1, none⟩ (ptr jb)).drew = wz at *
        iterate 8 (refine tree_still rfl rfl ?_; go_big_quiet_step (fail); refine wpQuiet_nil ?_)
        refine tree_done ?_
        clear e5 ne5
        go_wp2
        refine bodyPost_ret (results_tmp3 rfl _ _ _) rfl (HP.out _ rfl)
      · have HP : Hid (∀ r, r = .returned (.tuple #[v0, .slice (some ⟨bb, off + 1, none⟩) (n5 - 1) (cap - 1), .int .i64 0]) → RP r ((w4.setCell ⟨sb, 1, none⟩ (ptr jb)).drew)) := fun r e => by subst e; exact HP2.out hc1
        generalize (w4.setCell ⟨sb, 1, none⟩ (ptr jb)).drew = wz at *
        iterate 8 (refine tree_still rfl rfl ?_; go_big_quiet_step (fail); refine wpQuiet_nil ?_)
        refine tree_done ?_
        clear e5 ne5
        go_wp2
        refine bodyPost_ret (results_tmp3 rfl _ _ _) rfl (HP.out _ rfl)
end
end Go.Proofs.YtkcighejmjgalaaDoor
