/-
  The reference's Of, where a state stands.
-/
import Derived.Test.YtkcighejmjgalaaDoorRfA
import Derived.Laws.ResultCell
namespace Go.Proofs.YtkcighejmjgalaaDoor
set_option linter.unusedVariables false
set_option linter.unusedSimpArgs false
set_option synthInstance.maxSize 20000
set_option maxHeartbeats 2000000
set_option maxRecDepth 20000
open Go.RowKit Go.Maps

structure CW2 (b off : Nat) (v0 v1 : Value) (w : World) : Prop where
  c0 : w.cell? ⟨b, off, none⟩ = some v0
  c1 : w.cell? ⟨b, off + 1, none⟩ = some v1
theorem results_cell1 {fn : Func} {p : Tmp} {ty : TypeId} (h : fn.results = #[.cell p ty]) (tmps : Array Value) (P : Program) (w : World) : (results fn tmps).run P w = ((asAddr (tmps.getD p undef)).run P w).andThen fun a w₁ => (loadVar ty a).run P w₁ := by
  simp only [results, h]
  simp [Sem.run_bind, Result.andThen]
def stV (n : Int) (v0 v1 : Value) (room : Int) : Value := .agg #[.int .u32 n, v0, v1, .int .i64 room, .int .i64 0]
theorem rl_mid {w : World} {bb off len cap s n : Nat} {qs : List VB} (h : RL w (.slice (some ⟨bb, off, none⟩) len cap) qs) (hs : s + n ≤ qs.length) (hn : 0 < n) : RL w (.slice (some ⟨bb, off + s, none⟩) n (cap - s)) ((qs.drop s).take n) := by
  have hc := h.row.caps
  obtain ⟨a', c', e⟩ := h.len
  obtain ⟨_, rfl, _⟩ : some (⟨bb, off, none⟩ : Addr) = a' ∧ len = qs.length ∧ cap = c' := by simpa using e
  have h1 := rl_drop (s := s) h (by omega) (by have := hc.2.1; omega)
  rw [Option.map_some, Addr.add_lit] at h1
  have h2 := rl_take (n := n) (qs := qs.drop s) (by rw [List.length_drop]; exact h1) (by rw [List.length_drop]; omega)
  exact h2
/-- What Of hands out stays while its own block is written. -/
def OfIn (w : World) (o : Nat → Nat) (w2 : World) (v0 v1 : Value) (b0 : List Int) (rest : List (List Int)) : Prop := ∀ W, w2.grownBy W (some w.heap.size) → Kp0 W (newTo o w 0) v0 b0 ∧ KL W (newTo o w 0) v1 rest
theorem KL.owns {w : World} {o o2 : Nat → Nat} {v : Value} {L : List (List Int)} (h : KL w o v L) (ho : ∀ k, o k = 0 → o2 k = 0) : KL w o2 v L := by
  obtain ⟨qs, h1, h2⟩ := h
  exact ⟨qs, ⟨h1.rl, fun hq k hk => ho k (h1.row hq k hk), fun q hq hl k hk => ho k (h1.el q hq hl k hk)⟩, h2⟩
theorem Kp0.owns {w : World} {o o2 : Nat → Nat} {v : Value} {l : List Int} (h : Kp0 w o v l) (ho : ∀ k, o k = 0 → o2 k = 0) : Kp0 w o2 v l := ⟨h.1, fun hl k hk => ho k (h.2 hl k hk)⟩
def put5 (w : World) (g : Nat) (u0 u1 u2 u3 u4 : Value) : World := ((((w.setCell ⟨g, 0, none⟩ u0).setCell ⟨g, 1, none⟩ u1).setCell ⟨g, 2, none⟩ u2).setCell ⟨g, 3, none⟩ u3).setCell ⟨g, 4, none⟩ u4
theorem put5_grown (w : World) (g : Nat) (u0 u1 u2 u3 u4 : Value) : w.grownBy (put5 w g u0 u1 u2 u3 u4) (some g) :=
  grown_trans (grown_trans (grown_trans (grown_trans (grown_setCell _ _ _ _) (grown_setCell _ _ _ _) (fun k hk => .inl hk)) (grown_setCell _ _ _ _) (fun k hk => .inl hk)) (grown_setCell _ _ _ _) (fun k hk => .inl hk)) (grown_setCell _ _ _ _) (fun k hk => .inl hk)
theorem put5_blk {w : World} {g : Nat} {x0 x1 x2 x3 x4 : Value} (h : Blk w g 41 [x0, x1, x2, x3, x4]) (u0 u1 u2 u3 u4 : Value) : Blk (put5 w g u0 u1 u2 u3 u4) g 41 [u0, u1, u2, u3, u4] := ((((h.set 0 u0).set 1 u1).set 2 u2).set 3 u3).set 4 u4
theorem of_fin {w w1 w4 : World} {o : Nat → Nat} {b5 o5 : Nat} {x0 x1 x2 x3 x4 v0 v1 : Value} {n room : Int} {b0 : List Int} {rest : List (List Int)} (hb1 : Below w.heap.size w w1) (hbd : Below w1.heap.size w1 w4.drew) (k4 : Blk w4.drew w.heap.size 41 [x0, x1, x2, x3, x4]) (hcl : w4.cell? ⟨b5, o5, none⟩ = some v0) (hb5 : b5 ≠ w.heap.size) (hin : OfIn w o w4 v0 v1 b0 rest) {WZ : World} (hW : WZ = put5 w4.drew w.heap.size (.int .u32 n) v0 v1 (.int .i64 room) (.int .i64 0)) :
    CW b5 o5 v0 WZ ∧ Blk WZ w.heap.size 41 [.int .u32 n, v0, v1, .int .i64 room, .int .i64 0] ∧ Kp0 WZ (newTo o w 0) v0 b0 ∧ KL WZ (newTo o w 0) v1 rest ∧ Below w.heap.size w WZ := by
  have hG := put5_grown w4.drew w.heap.size (.int .u32 n) v0 v1 (.int .i64 room) (.int .i64 0)
  have hk := put5_blk k4 (.int .u32 n) v0 v1 (.int .i64 room) (.int .i64 0)
  rw [← hW] at hG hk
  obtain ⟨q1, q2⟩ := hin _ (grown_of_drew hG)
  refine ⟨⟨?_⟩, hk, q1, q2, bgrown (bnext hb1 hbd) (Nat.le_refl _) hG⟩
  have hcl' : w4.drew.cell? ⟨b5, o5, none⟩ = some v0 := hcl
  rw [World.cell?_of_block (hG.block b5 (World.block_lt_of_cell? w4.drew _ hcl') (fun e => hb5 (Option.some.inj e)))]
  exact hcl'
theorem of12 {w : World} (o : Nat → Nat) {v : Value} {qs : List VB} {a b n : Int} {base tail : Nat} {b0 : List Int} {rest : List (List Int)} (h : RL w v qs) (h6 : 6 ≤ qs.length) (hl : qs.length ≤ 60) {s0 s1 : List Int} (hs0 : (LL qs)[0]? = some s0) (hs1 : (LL qs)[1]? = some s1) (ha : headN s0 0 = a) (hb : headN s1 1 = b)
    (hnb : (b > a ∧ n = b ∧ base = 2 + hsize qs.length) ∨ (¬ b > a ∧ n = a ∧ base = 2)) (hn : U32 n) (hn0 : n ≠ 0) (hsc : scan (((LL qs).drop base).take (hsize qs.length)) n = (b0 :: rest, tail)) (hlt : latest (((LL qs).drop base).take (hsize qs.length)) n ≠ 4294967295) (ht : tail ≤ hsize qs.length) :
    Calls Tryd.prog 12 #[v] w fun r w' => ∃ v0 v1, r = .returned (stV n v0 v1 ((hsize qs.length - tail : Nat) : Int)) ∧ (∃ a c, v0 = .slice a b0.length c) ∧ (∃ a c, v1 = .slice a rest.length c) ∧ Kp0 w' (newTo o w 0) v0 b0 ∧ KL w' (newTo o w 0) v1 rest ∧ Below w.heap.size w w' := by
  obtain ⟨av, cap, rfl⟩ := h.len
  have hcap := h.row.caps
  have hcp1 : qs.length ≤ cap := hcap.2.1
  have hcp2 : cap ≤ 9223372036854775807 := hcap.2.2
  obtain ⟨q0, hq0⟩ : ∃ q, qs[0]? = some q := ⟨_, List.getElem?_eq_getElem (by omega)⟩
  obtain ⟨q1, hq1⟩ : ∃ q, qs[1]? = some q := ⟨_, List.getElem?_eq_getElem (by omega)⟩
  have e0 : q0.2 = s0 := by have := LL_at hq0; rw [hs0] at this; exact (Option.some.inj this).symm
  have e1 : q1.2 = s1 := by have := LL_at hq1; rw [hs1] at this; exact (Option.some.inj this).symm
  obtain ⟨bb, off, rfl, hc0⟩ := h.at hq0
  obtain ⟨bb', off', hx, hc1⟩ := h.at hq1
  obtain ⟨rfl, rfl⟩ : bb = bb' ∧ off = off' := by
    have := Option.some.inj hx
    simp at this
    exact this
  rw [Nat.add_zero] at hc0
  have hr0 := h.rd q0 (List.mem_of_getElem? hq0)
  have hr1 := h.rd q1 (List.mem_of_getElem? hq1)
  rw [e0] at hr0
  rw [e1] at hr1
  obtain ⟨a0, c0, hv0⟩ := hr0.len
  obtain ⟨a1, c1, hv1⟩ := hr1.len
  rw [hv0] at hc0 hr0
  rw [hv1] at hc1 hr1
  obtain ⟨w1, hw1⟩ : ∃ w1, w1 = w.alloc (.cells #[.int .u32 0, .slice none 0 0, .slice none 0 0, .int .i64 0, .int .i64 0] 41) := ⟨_, rfl⟩
  have hb1 : Below w.heap.size w w1 := by rw [hw1]; exact balloc (Below.refl _ _) _
  have k1 : Blk w1 w.heap.size 41 [.int .u32 0, .slice none 0 0, .slice none 0 0, .int .i64 0, .int .i64 0] := by rw [hw1]; exact blk_new w _ 41
  have HW1 : Hid (w1 = w.alloc (.cells #[.int .u32 0, .slice none 0 0, .slice none 0 0, .int .i64 0, .int .i64 0] 41)) := hw1
  have hsz1 : w1.heap.size = w.heap.size + 1 := by rw [hw1]; simp
  have HC2 : Hid (∀ w', Below w1.heap.size w1 w' → CW2 bb off (.slice a0 s0.length c0) (.slice a1 s1.length c1) w') := fun w' hb' => ⟨((bnext hb1 hb').cell (World.block_lt_of_cell? w _ hc0)).trans hc0, ((bnext hb1 hb').cell (World.block_lt_of_cell? w _ hc1)).trans hc1⟩
  have H0 : Hid (∀ w', Below w1.heap.size w1 w' → Calls Tryd.prog 29 #[.slice a0 s0.length c0, .int .i64 0] w' fun r w'' => r = .returned (.int .u32 a) ∧ Below w1.heap.size w1 w'') := fun w' hb' => by
    have := head29 (i := 0) ((hr0.below hb1).below hb') (by omega)
    rw [ha] at this
    exact this.mono fun r w'' h' => ⟨h'.1, bnext hb' h'.2⟩
  have H1 : Hid (∀ w', Below w1.heap.size w1 w' → Calls Tryd.prog 29 #[.slice a1 s1.length c1, .int .i64 1] w' fun r w'' => r = .returned (.int .u32 b) ∧ Below w1.heap.size w1 w'') := fun w' hb' => by
    have := head29 (i := 1) ((hr1.below hb1).below hb') (by omega)
    rw [hb] at this
    exact this.mono fun r w'' h' => ⟨h'.1, bnext hb' h'.2⟩
  have hsz2 : 2 ≤ hsize qs.length := hsize_pos h6
  have hszm : 2 + 2 * hsize qs.length ≤ qs.length := by unfold hsize; omega
  have hbs : base = 2 ∨ base = 2 + hsize qs.length := by omega
  have HSc : Hid (∀ w', Below w1.heap.size w1 w' → Calls Tryd.prog 30 #[.slice (some ⟨bb, off + base, none⟩) (hsize qs.length) (cap - base), .int .u32 n] w' fun r w2 => ∃ lt b5 o5 c5 a6 c6, r = .returned (.tuple #[.slice (some ⟨b5, o5, none⟩) (rest.length + 1) c5, .int .i64 (tail : Int), .int .u32 lt]) ∧ lt ≠ 4294967295 ∧ rest.length + 1 ≤ c5 ∧ c5 ≤ 9223372036854775807 ∧ w2.cell? ⟨b5, o5, none⟩ = some (.slice a6 b0.length c6) ∧ b5 ≠ w.heap.size ∧ Below w1.heap.size w1 w2 ∧
      (c5 = 1 → OfIn w o w2 (.slice a6 b0.length c6) (.slice (some ⟨b5, o5, none⟩) 0 0) b0 rest) ∧ (¬ c5 = 1 → OfIn w o w2 (.slice a6 b0.length c6) (.slice (some ⟨b5, o5 + 1, none⟩) rest.length (c5 - 1)) b0 rest)) := fun w' hb' => by
    have hrl := rl_mid (s := base) (n := hsize qs.length) ((h.below hb1).below hb') (by omega) (by omega)
    have hll : LL ((qs.drop base).take (hsize qs.length)) = ((LL qs).drop base).take (hsize qs.length) := by rw [LL_take, LL_drop]
    have h30 := rscan18 (gen := n) hrl (by rw [List.length_take]; omega) hn
    rw [hll, hsc] at h30
    refine h30.mono ?_
    rintro r w2 ⟨v', rfl, ho, hb2⟩
    have hnew : ∀ k, v'.ownBlock = some k → w'.heap.size ≤ k := by
      obtain ⟨ps, p1, p2, p3⟩ := ho
      exact p3.row
    have hk := ho.kl0 (w := w') (o := fun k => if k = w.heap.size then 1 else 2)
    obtain ⟨b5, o5, c5, v0, rfl, hc1', hc2', hcl, hkp, hk1, hk2⟩ := kl_uncons hk
    have h5 := hnew b5 rfl
    have hsw := hb'.size
    have hm : ∀ W, w2.grownBy W (some w.heap.size) → Mv [1] w2 (newTo (fun k => if k = w.heap.size then 1 else 2) w' 0) W (newTo (fun k => if k = w.heap.size then 1 else 2) w' 0) := fun W hG => Mv.of_set hG (fun _ => by rw [newTo_old (by omega), if_pos rfl]; simp)
    have how : ∀ k, newTo (fun k => if k = w.heap.size then 1 else 2) w' 0 k = 0 → newTo o w 0 k = 0 := fun k hk => by
      by_cases hlt : k < w'.heap.size
      · rw [newTo_old hlt] at hk
        split at hk <;> omega
      · exact newTo_new (by omega)
    obtain ⟨a6, c6, hv6⟩ := hkp.1.len
    subst hv6
    refine ⟨_, b5, o5, c5, a6, c6, rfl, hlt, hc1', hc2', hcl, by omega, bnext hb' hb2, fun e W hG => ?_, fun e W hG => ?_⟩
    · exact ⟨(hkp.mv (hm W hG) (by simp)).owns how, ((hk1 e).mv (hm W hG) (by simp)).owns how⟩
    · exact ⟨(hkp.mv (hm W hG) (by simp)).owns how, ((hk2 e).mv (hm W hG) (by simp)).owns how⟩
  have HK : Hid (∀ w', Below w1.heap.size w1 w' → Blk w' w.heap.size 41 [.int .u32 0, .slice none 0 0, .slice none 0 0, .int .i64 0, .int .i64 0]) := fun w' hb' => k1.below hb'
  have hua : U32 a := by rw [← ha]; exact headN_u32 (by rw [← e0]; exact h.oct _ (List.mem_of_getElem? (LL_at hq0))) 0
  have hub : U32 b := by rw [← hb]; exact headN_u32 (by rw [← e1]; exact h.oct _ (List.mem_of_getElem? (LL_at hq1))) 1
  have HB1 : Hid (Below w.heap.size w w1) := hb1
  have HD1 : Hid (Below w1.heap.size w1 w1.drew) := (Below.refl _ _).drew
  have HDr : Hid (∀ w', Below w1.heap.size w1 w' → Below w1.heap.size w1 w'.drew) := fun w' h' => h'.drew
  have f0 : ∀ z : WIn (CW2 bb off (.slice a0 s0.length c0) (.slice a1 s1.length c1)), z.w.cell? ⟨bb, off, none⟩ = some (.slice a0 s0.length c0) := fun z => z.ok.c0
  have f1 : ∀ z : WIn (CW2 bb off (.slice a0 s0.length c0) (.slice a1 s1.length c1)), z.w.cell? ⟨bb, off + 1, none⟩ = some (.slice a1 s1.length c1) := fun z => z.ok.c1
  have ne : Nonempty (WIn (CW2 bb off (.slice a0 s0.length c0) (.slice a1 s1.length c1))) := ⟨⟨w1, HC2.out w1 (Below.refl _ _)⟩⟩
  obtain ⟨m, hm⟩ : ∃ m, m = qs.length := ⟨_, rfl⟩
  have eh : ((m : Int) - 2).tdiv 2 = (hsize qs.length : Int) := by
    rw [hm]
    unfold hsize
    rw [Int.tdiv_eq_ediv_of_nonneg (by omega)]
    omega
  have hszm' : hsize qs.length ≤ 30 := by omega
  have hbm : base + hsize qs.length ≤ m := by omega
  have hnb' := hnb
  generalize hsize qs.length = sz at *
  rw [← hm] at h6 hl hcp1 ⊢
  clear h hc0 hc1 hr0 hr1 hw1 hb1 k1 hcap hq0 hq1 hs0 hs1 ha hb hsc hlt hx hm hszm hnb
  go_enter Tryd.func12, Tryd.ntmps12
  go_upto_region 3 with fail
  rw [← HW1.out]
  refine wp_region_tree (C := fun w' => ∃ z : WIn (CW2 bb off (.slice a0 s0.length c0) (.slice a1 s1.length c1)), w' = z.w) (.still 0 (.still 1 (.still 2 (.still 4 (.still 5 (.still 6 (.one 3 (.one 7 (.still 8 (.still 9 .done)))))))))) (by kernel_rfl) (by kernel_rfl) ⟨⟨w1.drew, HC2.out _ HD1.out⟩, rfl⟩ ?_
  generalize w1.drew = wd at *
  iterate 6 (refine tree_still rfl rfl ?_; go_big_quiet_step (fail); refine wpQuiet_nil ?_)
  refine tree_one rfl rfl ?_
  go_simp
  refine (H0.out wd HD1.out).mono ?_
  rintro r w2 ⟨rfl, hb2⟩
  have HB2 : Hid (Below w1.heap.size w1 w2) := hb2
  clear hb2
  refine ⟨⟨⟨_, HC2.out _ HB2.out⟩, rfl⟩, ?_⟩
  refine tree_one rfl rfl ?_
  go_simp
  refine (H1.out w2 HB2.out).mono ?_
  rintro r w3 ⟨rfl, hb3⟩
  have HB3 : Hid (Below w1.heap.size w1 w3) := hb3
  clear hb3
  refine ⟨⟨⟨_, HC2.out _ HB3.out⟩, rfl⟩, ?_⟩
  iterate 2 (refine tree_still rfl rfl ?_; go_big_quiet_step (fail); refine wpQuiet_nil ?_)
  refine tree_done ?_
  clear f0 f1 ne H0 H1 HC2
  rcases hnb' with ⟨hgt, rfl, rfl⟩ | ⟨hgt, rfl, rfl⟩
  · have hb0 : (n == 0) = false := by simpa using hn0
    have hu1 := hn.1
    have hu2 := hn.2
    have hua1 := hua.1
    by_cases ha0 : a = 0
    · subst ha0
      go_wp2_with fail
      refine (HSc.out w3 HB3.out).mono ?_
      rintro r w4 ⟨lt, b5, o5, c5, a6, c6, rfl, hlt, hc51, hc52, hcl, hb5, hb4, hp1, hp2⟩
      have hlt' : (lt == 4294967295) = false := by simpa using hlt
      have HB4 : Hid (Below w1.heap.size w1 w4) := hb4
      have HCl : Hid (w4.cell? ⟨b5, o5, none⟩ = some (.slice a6 b0.length c6)) := hcl
      have HP1 : Hid (c5 = 1 → OfIn w o w4 (.slice a6 b0.length c6) (.slice (some ⟨b5, o5, none⟩) 0 0) b0 rest) := hp1
      have HP2 : Hid (¬ c5 = 1 → OfIn w o w4 (.slice a6 b0.length c6) (.slice (some ⟨b5, o5 + 1, none⟩) rest.length (c5 - 1)) b0 rest) := hp2
      have HB5 : Hid (b5 ≠ w.heap.size) := hb5
      obtain ⟨rl, hrl⟩ : ∃ rl, rl = rest.length := ⟨_, rfl⟩
      have HRL : Hid (rl = rest.length) := hrl
      rw [← hrl] at hc51 HP2 ⊢
      clear hlt hb4 hcl hp1 hp2 hb5 hrl
      go_upto_region 18 with fail
      have HBd : Hid (Below w1.heap.size w1 w4.drew) := HDr.out w4 HB4.out
      have k4 := HK.out w4.drew HBd.out
      have HCd : Hid (CW b5 o5 (.slice a6 b0.length c6) w4.drew) := ⟨HCl.out⟩
      have f5 : ∀ z : WIn (CW b5 o5 (.slice a6 b0.length c6)), z.w.cell? ⟨b5, o5, none⟩ = some (.slice a6 b0.length c6) := fun z => z.ok.c
      have ne5 : Nonempty (WIn (CW b5 o5 (.slice a6 b0.length c6))) := ⟨⟨_, HCd.out⟩⟩
      refine wp_region_tree (C := fun w' => ∃ z : WIn (CW b5 o5 (.slice a6 b0.length c6)), w' = z.w) (.still 0 (.still 1 (.still 2 (.still 3 (.still 4 (.still 5 (.still 6 (.still 7 (.still 8 (.still 9 (.one 10 .done))))))))))) (by kernel_rfl) (by kernel_rfl) ⟨⟨_, HCd.out⟩, rfl⟩ ?_
      have g0 := k4.cell 0 _ rfl
      have g1 := k4.cell 1 _ rfl
      have g2 := k4.cell 2 _ rfl
      have g3 := k4.cell 3 _ rfl
      have g4 := k4.cell 4 _ rfl
      have j0 := k4.frozen 0
      have j1 := k4.frozen 1
      have j2 := k4.frozen 2
      have j3 := k4.frozen 3
      have j4 := k4.frozen 4
      have HFin : Hid (∀ v1 WZ, OfIn w o w4 (.slice a6 b0.length c6) v1 b0 rest → WZ = put5 w4.drew w.heap.size (.int .u32 n) (.slice a6 b0.length c6) v1 (.int .i64 ((sz : Int) - (tail : Int))) (.int .i64 0) → CW b5 o5 (.slice a6 b0.length c6) WZ ∧ Blk WZ w.heap.size 41 [.int .u32 n, .slice a6 b0.length c6, v1, .int .i64 ((sz : Int) - (tail : Int)), .int .i64 0] ∧ Kp0 WZ (newTo o w 0) (.slice a6 b0.length c6) b0 ∧ KL WZ (newTo o w 0) v1 rest ∧ Below w.heap.size w WZ) := fun v1 WZ hin hW => of_fin HB1.out HBd.out k4 HCl.out HB5.out hin hW
      clear k4 HCl HB4 HB5 HBd
      generalize w4.drew = wz at *
      have HRM : Hid ((sz : Int) - (tail : Int) = ((sz - tail : Nat) : Int)) := by show _ = _; omega
      by_cases hc1 : c5 = 1
      · obtain ⟨WZ, hWZ⟩ : ∃ WZ, WZ = put5 wz w.heap.size (.int .u32 n) (.slice a6 b0.length c6) (.slice (some ⟨b5, o5, none⟩) 0 0) (.int .i64 ((sz : Int) - (tail : Int))) (.int .i64 0) := ⟨_, rfl⟩
        obtain ⟨hcw, hbk, hrd, hps, hbe⟩ := HFin.out _ WZ (HP1.out hc1) hWZ
        have HWZ : Hid (put5 wz w.heap.size (.int .u32 n) (.slice a6 b0.length c6) (.slice (some ⟨b5, o5, none⟩) 0 0) (.int .i64 ((sz : Int) - (tail : Int))) (.int .i64 0) = WZ) := hWZ.symm
        have HCW : Hid (CW b5 o5 (.slice a6 b0.length c6) WZ) := hcw
        have HFn : Hid ((∃ a c, Value.slice a6 b0.length c6 = .slice a b0.length c) ∧ (∃ a c, Value.slice (some ⟨b5, o5, none⟩) 0 0 = .slice a rest.length c) ∧ Kp0 WZ (newTo o w 0) (.slice a6 b0.length c6) b0 ∧ KL WZ (newTo o w 0) (.slice (some ⟨b5, o5, none⟩) 0 0) rest ∧ Below w.heap.size w WZ) := ⟨⟨_, _, rfl⟩, ⟨some ⟨b5, o5, none⟩, 0, by have := HRL.out; rw [show rest.length = 0 by omega]⟩, hrd, hps, hbe⟩
        have HBk : Hid (Blk WZ w.heap.size 41 [.int .u32 n, .slice a6 b0.length c6, .slice (some ⟨b5, o5, none⟩) 0 0, .int .i64 ((sz : Int) - (tail : Int)), .int .i64 0]) := hbk
        clear hWZ hcw hbk hrd hps hbe HFin HP1 HP2
        subst hc1
        obtain rfl : rl = 0 := by omega
        iterate 10 (refine tree_still rfl rfl ?_; go_big_quiet_step (fail); refine wpQuiet_nil ?_)
        refine tree_one rfl rfl ?_
        go_simp
        have hw9 := HWZ.out
        unfold put5 at hw9
        rw [hw9]
        clear hw9 HWZ g0 g1 g2 g3 g4 j0 j1 j2 j3 j4
        refine ⟨⟨⟨WZ, HCW.out⟩, rfl⟩, ?_⟩
        refine tree_done ?_
        clear f5 ne5
        have g0 := HBk.out.cell 0 _ rfl
        have g1 := HBk.out.cell 1 _ rfl
        have g2 := HBk.out.cell 2 _ rfl
        have g3 := HBk.out.cell 3 _ rfl
        have g4 := HBk.out.cell 4 _ rfl
        go_wp2
        refine bodyPost_ret (v := stV n (.slice a6 b0.length c6) (.slice (some ⟨b5, o5, none⟩) 0 0) ((sz : Int) - (tail : Int))) ?_ rfl ⟨_, _, by rw [HRM.out], HFn.out⟩
        rw [results_cell1 rfl]
        go_simp
        rfl
      · obtain ⟨WZ, hWZ⟩ : ∃ WZ, WZ = put5 wz w.heap.size (.int .u32 n) (.slice a6 b0.length c6) (.slice (some ⟨b5, o5 + 1, none⟩) rl (c5 - 1)) (.int .i64 ((sz : Int) - (tail : Int))) (.int .i64 0) := ⟨_, rfl⟩
        obtain ⟨hcw, hbk, hrd, hps, hbe⟩ := HFin.out _ WZ (HP2.out hc1) hWZ
        have HWZ : Hid (put5 wz w.heap.size (.int .u32 n) (.slice a6 b0.length c6) (.slice (some ⟨b5, o5 + 1, none⟩) rl (c5 - 1)) (.int .i64 ((sz : Int) - (tail : Int))) (.int .i64 0) = WZ) := hWZ.symm
        have HCW : Hid (CW b5 o5 (.slice a6 b0.length c6) WZ) := hcw
        have HFn : Hid ((∃ a c, Value.slice a6 b0.length c6 = .slice a b0.length c) ∧ (∃ a c, Value.slice (some ⟨b5, o5 + 1, none⟩) rl (c5 - 1) = .slice a rest.length c) ∧ Kp0 WZ (newTo o w 0) (.slice a6 b0.length c6) b0 ∧ KL WZ (newTo o w 0) (.slice (some ⟨b5, o5 + 1, none⟩) rl (c5 - 1)) rest ∧ Below w.heap.size w WZ) := ⟨⟨_, _, rfl⟩, ⟨some ⟨b5, o5 + 1, none⟩, c5 - 1, by rw [HRL.out]⟩, hrd, hps, hbe⟩
        have HBk : Hid (Blk WZ w.heap.size 41 [.int .u32 n, .slice a6 b0.length c6, .slice (some ⟨b5, o5 + 1, none⟩) rl (c5 - 1), .int .i64 ((sz : Int) - (tail : Int)), .int .i64 0]) := hbk
        clear hWZ hcw hbk hrd hps hbe HFin HP1 HP2
        iterate 10 (refine tree_still rfl rfl ?_; go_big_quiet_step (fail); refine wpQuiet_nil ?_)
        refine tree_one rfl rfl ?_
        go_simp
        have hw9 := HWZ.out
        unfold put5 at hw9
        rw [hw9]
        clear hw9 HWZ g0 g1 g2 g3 g4 j0 j1 j2 j3 j4
        refine ⟨⟨⟨WZ, HCW.out⟩, rfl⟩, ?_⟩
        refine tree_done ?_
        clear f5 ne5
        have g0 := HBk.out.cell 0 _ rfl
        have g1 := HBk.out.cell 1 _ rfl
        have g2 := HBk.out.cell 2 _ rfl
        have g3 := HBk.out.cell 3 _ rfl
        have g4 := HBk.out.cell 4 _ rfl
        go_wp2
        refine bodyPost_ret (v := stV n (.slice a6 b0.length c6) (.slice (some ⟨b5, o5 + 1, none⟩) rl (c5 - 1)) ((sz : Int) - (tail : Int))) ?_ rfl ⟨_, _, by rw [HRM.out], HFn.out⟩
        rw [results_cell1 rfl]
        go_simp
        rfl
    · have ha0' : (a == 0) = false := by simpa using ha0
      clear ha0
      go_wp2_with fail
      refine (HSc.out w3 HB3.out).mono ?_
      rintro r w4 ⟨lt, b5, o5, c5, a6, c6, rfl, hlt, hc51, hc52, hcl, hb5, hb4, hp1, hp2⟩
      have hlt' : (lt == 4294967295) = false := by simpa using hlt
      have HB4 : Hid (Below w1.heap.size w1 w4) := hb4
      have HCl : Hid (w4.cell? ⟨b5, o5, none⟩ = some (.slice a6 b0.length c6)) := hcl
      have HP1 : Hid (c5 = 1 → OfIn w o w4 (.slice a6 b0.length c6) (.slice (some ⟨b5, o5, none⟩) 0 0) b0 rest) := hp1
      have HP2 : Hid (¬ c5 = 1 → OfIn w o w4 (.slice a6 b0.length c6) (.slice (some ⟨b5, o5 + 1, none⟩) rest.length (c5 - 1)) b0 rest) := hp2
      have HB5 : Hid (b5 ≠ w.heap.size) := hb5
      obtain ⟨rl, hrl⟩ : ∃ rl, rl = rest.length := ⟨_, rfl⟩
      have HRL : Hid (rl = rest.length) := hrl
      rw [← hrl] at hc51 HP2 ⊢
      clear hlt hb4 hcl hp1 hp2 hb5 hrl
      go_upto_region 18 with fail
      have HBd : Hid (Below w1.heap.size w1 w4.drew) := HDr.out w4 HB4.out
      have k4 := HK.out w4.drew HBd.out
      have HCd : Hid (CW b5 o5 (.slice a6 b0.length c6) w4.drew) := ⟨HCl.out⟩
      have f5 : ∀ z : WIn (CW b5 o5 (.slice a6 b0.length c6)), z.w.cell? ⟨b5, o5, none⟩ = some (.slice a6 b0.length c6) := fun z => z.ok.c
      have ne5 : Nonempty (WIn (CW b5 o5 (.slice a6 b0.length c6))) := ⟨⟨_, HCd.out⟩⟩
      refine wp_region_tree (C := fun w' => ∃ z : WIn (CW b5 o5 (.slice a6 b0.length c6)), w' = z.w) (.still 0 (.still 1 (.still 2 (.still 3 (.still 4 (.still 5 (.still 6 (.still 7 (.still 8 (.still 9 (.one 10 .done))))))))))) (by kernel_rfl) (by kernel_rfl) ⟨⟨_, HCd.out⟩, rfl⟩ ?_
      have g0 := k4.cell 0 _ rfl
      have g1 := k4.cell 1 _ rfl
      have g2 := k4.cell 2 _ rfl
      have g3 := k4.cell 3 _ rfl
      have g4 := k4.cell 4 _ rfl
      have j0 := k4.frozen 0
      have j1 := k4.frozen 1
      have j2 := k4.frozen 2
      have j3 := k4.frozen 3
      have j4 := k4.frozen 4
      have HFin : Hid (∀ v1 WZ, OfIn w o w4 (.slice a6 b0.length c6) v1 b0 rest → WZ = put5 w4.drew w.heap.size (.int .u32 n) (.slice a6 b0.length c6) v1 (.int .i64 ((sz : Int) - (tail : Int))) (.int .i64 0) → CW b5 o5 (.slice a6 b0.length c6) WZ ∧ Blk WZ w.heap.size 41 [.int .u32 n, .slice a6 b0.length c6, v1, .int .i64 ((sz : Int) - (tail : Int)), .int .i64 0] ∧ Kp0 WZ (newTo o w 0) (.slice a6 b0.length c6) b0 ∧ KL WZ (newTo o w 0) v1 rest ∧ Below w.heap.size w WZ) := fun v1 WZ hin hW => of_fin HB1.out HBd.out k4 HCl.out HB5.out hin hW
      clear k4 HCl HB4 HB5 HBd
      generalize w4.drew = wz at *
      have HRM : Hid ((sz : Int) - (tail : Int) = ((sz - tail : Nat) : Int)) := by show _ = _; omega
      by_cases hc1 : c5 = 1
      · obtain ⟨WZ, hWZ⟩ : ∃ WZ, WZ = put5 wz w.heap.size (.int .u32 n) (.slice a6 b0.length c6) (.slice (some ⟨b5, o5, none⟩) 0 0) (.int .i64 ((sz : Int) - (tail : Int))) (.int .i64 0) := ⟨_, rfl⟩
        obtain ⟨hcw, hbk, hrd, hps, hbe⟩ := HFin.out _ WZ (HP1.out hc1) hWZ
        have HWZ : Hid (put5 wz w.heap.size (.int .u32 n) (.slice a6 b0.length c6) (.slice (some ⟨b5, o5, none⟩) 0 0) (.int .i64 ((sz : Int) - (tail : Int))) (.int .i64 0) = WZ) := hWZ.symm
        have HCW : Hid (CW b5 o5 (.slice a6 b0.length c6) WZ) := hcw
        have HFn : Hid ((∃ a c, Value.slice a6 b0.length c6 = .slice a b0.length c) ∧ (∃ a c, Value.slice (some ⟨b5, o5, none⟩) 0 0 = .slice a rest.length c) ∧ Kp0 WZ (newTo o w 0) (.slice a6 b0.length c6) b0 ∧ KL WZ (newTo o w 0) (.slice (some ⟨b5, o5, none⟩) 0 0) rest ∧ Below w.heap.size w WZ) := ⟨⟨_, _, rfl⟩, ⟨some ⟨b5, o5, none⟩, 0, by have := HRL.out; rw [show rest.length = 0 by omega]⟩, hrd, hps, hbe⟩
        have HBk : Hid (Blk WZ w.heap.size 41 [.int .u32 n, .slice a6 b0.length c6, .slice (some ⟨b5, o5, none⟩) 0 0, .int .i64 ((sz : Int) - (tail : Int)), .int .i64 0]) := hbk
        clear hWZ hcw hbk hrd hps hbe HFin HP1 HP2
        subst hc1
        obtain rfl : rl = 0 := by omega
        iterate 10 (refine tree_still rfl rfl ?_; go_big_quiet_step (fail); refine wpQuiet_nil ?_)
        refine tree_one rfl rfl ?_
        go_simp
        have hw9 := HWZ.out
        unfold put5 at hw9
        rw [hw9]
        clear hw9 HWZ g0 g1 g2 g3 g4 j0 j1 j2 j3 j4
        refine ⟨⟨⟨WZ, HCW.out⟩, rfl⟩, ?_⟩
        refine tree_done ?_
        clear f5 ne5
        have g0 := HBk.out.cell 0 _ rfl
        have g1 := HBk.out.cell 1 _ rfl
        have g2 := HBk.out.cell 2 _ rfl
        have g3 := HBk.out.cell 3 _ rfl
        have g4 := HBk.out.cell 4 _ rfl
        go_wp2
        refine bodyPost_ret (v := stV n (.slice a6 b0.length c6) (.slice (some ⟨b5, o5, none⟩) 0 0) ((sz : Int) - (tail : Int))) ?_ rfl ⟨_, _, by rw [HRM.out], HFn.out⟩
        rw [results_cell1 rfl]
        go_simp
        rfl
      · obtain ⟨WZ, hWZ⟩ : ∃ WZ, WZ = put5 wz w.heap.size (.int .u32 n) (.slice a6 b0.length c6) (.slice (some ⟨b5, o5 + 1, none⟩) rl (c5 - 1)) (.int .i64 ((sz : Int) - (tail : Int))) (.int .i64 0) := ⟨_, rfl⟩
        obtain ⟨hcw, hbk, hrd, hps, hbe⟩ := HFin.out _ WZ (HP2.out hc1) hWZ
        have HWZ : Hid (put5 wz w.heap.size (.int .u32 n) (.slice a6 b0.length c6) (.slice (some ⟨b5, o5 + 1, none⟩) rl (c5 - 1)) (.int .i64 ((sz : Int) - (tail : Int))) (.int .i64 0) = WZ) := hWZ.symm
        have HCW : Hid (CW b5 o5 (.slice a6 b0.length c6) WZ) := hcw
        have HFn : Hid ((∃ a c, Value.slice a6 b0.length c6 = .slice a b0.length c) ∧ (∃ a c, Value.slice (some ⟨b5, o5 + 1, none⟩) rl (c5 - 1) = .slice a rest.length c) ∧ Kp0 WZ (newTo o w 0) (.slice a6 b0.length c6) b0 ∧ KL WZ (newTo o w 0) (.slice (some ⟨b5, o5 + 1, none⟩) rl (c5 - 1)) rest ∧ Below w.heap.size w WZ) := ⟨⟨_, _, rfl⟩, ⟨some ⟨b5, o5 + 1, none⟩, c5 - 1, by rw [HRL.out]⟩, hrd, hps, hbe⟩
        have HBk : Hid (Blk WZ w.heap.size 41 [.int .u32 n, .slice a6 b0.length c6, .slice (some ⟨b5, o5 + 1, none⟩) rl (c5 - 1), .int .i64 ((sz : Int) - (tail : Int)), .int .i64 0]) := hbk
        clear hWZ hcw hbk hrd hps hbe HFin HP1 HP2
        iterate 10 (refine tree_still rfl rfl ?_; go_big_quiet_step (fail); refine wpQuiet_nil ?_)
        refine tree_one rfl rfl ?_
        go_simp
        have hw9 := HWZ.out
        unfold put5 at hw9
        rw [hw9]
        clear hw9 HWZ g0 g1 g2 g3 g4 j0 j1 j2 j3 j4
        refine ⟨⟨⟨WZ, HCW.out⟩, rfl⟩, ?_⟩
        refine tree_done ?_
        clear f5 ne5
        have g0 := HBk.out.cell 0 _ rfl
        have g1 := HBk.out.cell 1 _ rfl
        have g2 := HBk.out.cell 2 _ rfl
        have g3 := HBk.out.cell 3 _ rfl
        have g4 := HBk.out.cell 4 _ rfl
        go_wp2
        refine bodyPost_ret (v := stV n (.slice a6 b0.length c6) (.slice (some ⟨b5, o5 + 1, none⟩) rl (c5 - 1)) ((sz : Int) - (tail : Int))) ?_ rfl ⟨_, _, by rw [HRM.out], HFn.out⟩
        rw [results_cell1 rfl]
        go_simp
        rfl
  · have hb0 : (n == 0) = false := by simpa using hn0
    have hu1 := hn.1
    have hu2 := hn.2
    have hub1 := hub.1
    go_wp2_with fail
    refine (HSc.out w3 HB3.out).mono ?_
    rintro r w4 ⟨lt, b5, o5, c5, a6, c6, rfl, hlt, hc51, hc52, hcl, hb5, hb4, hp1, hp2⟩
    have hlt' : (lt == 4294967295) = false := by simpa using hlt
    have HB4 : Hid (Below w1.heap.size w1 w4) := hb4
    have HCl : Hid (w4.cell? ⟨b5, o5, none⟩ = some (.slice a6 b0.length c6)) := hcl
    have HP1 : Hid (c5 = 1 → OfIn w o w4 (.slice a6 b0.length c6) (.slice (some ⟨b5, o5, none⟩) 0 0) b0 rest) := hp1
    have HP2 : Hid (¬ c5 = 1 → OfIn w o w4 (.slice a6 b0.length c6) (.slice (some ⟨b5, o5 + 1, none⟩) rest.length (c5 - 1)) b0 rest) := hp2
    have HB5 : Hid (b5 ≠ w.heap.size) := hb5
    obtain ⟨rl, hrl⟩ : ∃ rl, rl = rest.length := ⟨_, rfl⟩
    have HRL : Hid (rl = rest.length) := hrl
    rw [← hrl] at hc51 HP2 ⊢
    clear hlt hb4 hcl hp1 hp2 hb5 hrl
    go_upto_region 18 with fail
    have HBd : Hid (Below w1.heap.size w1 w4.drew) := HDr.out w4 HB4.out
    have k4 := HK.out w4.drew HBd.out
    have HCd : Hid (CW b5 o5 (.slice a6 b0.length c6) w4.drew) := ⟨HCl.out⟩
    have f5 : ∀ z : WIn (CW b5 o5 (.slice a6 b0.length c6)), z.w.cell? ⟨b5, o5, none⟩ = some (.slice a6 b0.length c6) := fun z => z.ok.c
    have ne5 : Nonempty (WIn (CW b5 o5 (.slice a6 b0.length c6))) := ⟨⟨_, HCd.out⟩⟩
    refine wp_region_tree (C := fun w' => ∃ z : WIn (CW b5 o5 (.slice a6 b0.length c6)), w' = z.w) (.still 0 (.still 1 (.still 2 (.still 3 (.still 4 (.still 5 (.still 6 (.still 7 (.still 8 (.still 9 (.one 10 .done))))))))))) (by kernel_rfl) (by kernel_rfl) ⟨⟨_, HCd.out⟩, rfl⟩ ?_
    have g0 := k4.cell 0 _ rfl
    have g1 := k4.cell 1 _ rfl
    have g2 := k4.cell 2 _ rfl
    have g3 := k4.cell 3 _ rfl
    have g4 := k4.cell 4 _ rfl
    have j0 := k4.frozen 0
    have j1 := k4.frozen 1
    have j2 := k4.frozen 2
    have j3 := k4.frozen 3
    have j4 := k4.frozen 4
    have HFin : Hid (∀ v1 WZ, OfIn w o w4 (.slice a6 b0.length c6) v1 b0 rest → WZ = put5 w4.drew w.heap.size (.int .u32 n) (.slice a6 b0.length c6) v1 (.int .i64 ((sz : Int) - (tail : Int))) (.int .i64 0) → CW b5 o5 (.slice a6 b0.length c6) WZ ∧ Blk WZ w.heap.size 41 [.int .u32 n, .slice a6 b0.length c6, v1, .int .i64 ((sz : Int) - (tail : Int)), .int .i64 0] ∧ Kp0 WZ (newTo o w 0) (.slice a6 b0.length c6) b0 ∧ KL WZ (newTo o w 0) v1 rest ∧ Below w.heap.size w WZ) := fun v1 WZ hin hW => of_fin HB1.out HBd.out k4 HCl.out HB5.out hin hW
    clear k4 HCl HB4 HB5 HBd
    generalize w4.drew = wz at *
    have HRM : Hid ((sz : Int) - (tail : Int) = ((sz - tail : Nat) : Int)) := by show _ = _; omega
    by_cases hc1 : c5 = 1
    · obtain ⟨WZ, hWZ⟩ : ∃ WZ, WZ = put5 wz w.heap.size (.int .u32 n) (.slice a6 b0.length c6) (.slice (some ⟨b5, o5, none⟩) 0 0) (.int .i64 ((sz : Int) - (tail : Int))) (.int .i64 0) := ⟨_, rfl⟩
      obtain ⟨hcw, hbk, hrd, hps, hbe⟩ := HFin.out _ WZ (HP1.out hc1) hWZ
      have HWZ : Hid (put5 wz w.heap.size (.int .u32 n) (.slice a6 b0.length c6) (.slice (some ⟨b5, o5, none⟩) 0 0) (.int .i64 ((sz : Int) - (tail : Int))) (.int .i64 0) = WZ) := hWZ.symm
      have HCW : Hid (CW b5 o5 (.slice a6 b0.length c6) WZ) := hcw
      have HFn : Hid ((∃ a c, Value.slice a6 b0.length c6 = .slice a b0.length c) ∧ (∃ a c, Value.slice (some ⟨b5, o5, none⟩) 0 0 = .slice a rest.length c) ∧ Kp0 WZ (newTo o w 0) (.slice a6 b0.length c6) b0 ∧ KL WZ (newTo o w 0) (.slice (some ⟨b5, o5, none⟩) 0 0) rest ∧ Below w.heap.size w WZ) := ⟨⟨_, _, rfl⟩, ⟨some ⟨b5, o5, none⟩, 0, by have := HRL.out; rw [show rest.length = 0 by omega]⟩, hrd, hps, hbe⟩
      have HBk : Hid (Blk WZ w.heap.size 41 [.int .u32 n, .slice a6 b0.length c6, .slice (some ⟨b5, o5, none⟩) 0 0, .int .i64 ((sz : Int) - (tail : Int)), .int .i64 0]) := hbk
      clear hWZ hcw hbk hrd hps hbe HFin HP1 HP2
      subst hc1
      obtain rfl : rl = 0 := by omega
      iterate 10 (refine tree_still rfl rfl ?_; go_big_quiet_step (fail); refine wpQuiet_nil ?_)
      refine tree_one rfl rfl ?_
      go_simp
      have hw9 := HWZ.out
      unfold put5 at hw9
      rw [hw9]
      clear hw9 HWZ g0 g1 g2 g3 g4 j0 j1 j2 j3 j4
      refine ⟨⟨⟨WZ, HCW.out⟩, rfl⟩, ?_⟩
      refine tree_done ?_
      clear f5 ne5
      have g0 := HBk.out.cell 0 _ rfl
      have g1 := HBk.out.cell 1 _ rfl
      have g2 := HBk.out.cell 2 _ rfl
      have g3 := HBk.out.cell 3 _ rfl
      have g4 := HBk.out.cell 4 _ rfl
      go_wp2
      refine bodyPost_ret (v := stV n (.slice a6 b0.length c6) (.slice (some ⟨b5, o5, none⟩) 0 0) ((sz : Int) - (tail : Int))) ?_ rfl ⟨_, _, by rw [HRM.out], HFn.out⟩
      rw [results_cell1 rfl]
      go_simp
      rfl
    · obtain ⟨WZ, hWZ⟩ : ∃ WZ, WZ = put5 wz w.heap.size (.int .u32 n) (.slice a6 b0.length c6) (.slice (some ⟨b5, o5 + 1, none⟩) rl (c5 - 1)) (.int .i64 ((sz : Int) - (tail : Int))) (.int .i64 0) := ⟨_, rfl⟩
      obtain ⟨hcw, hbk, hrd, hps, hbe⟩ := HFin.out _ WZ (HP2.out hc1) hWZ
      have HWZ : Hid (put5 wz w.heap.size (.int .u32 n) (.slice a6 b0.length c6) (.slice (some ⟨b5, o5 + 1, none⟩) rl (c5 - 1)) (.int .i64 ((sz : Int) - (tail : Int))) (.int .i64 0) = WZ) := hWZ.symm
      have HCW : Hid (CW b5 o5 (.slice a6 b0.length c6) WZ) := hcw
      have HFn : Hid ((∃ a c, Value.slice a6 b0.length c6 = .slice a b0.length c) ∧ (∃ a c, Value.slice (some ⟨b5, o5 + 1, none⟩) rl (c5 - 1) = .slice a rest.length c) ∧ Kp0 WZ (newTo o w 0) (.slice a6 b0.length c6) b0 ∧ KL WZ (newTo o w 0) (.slice (some ⟨b5, o5 + 1, none⟩) rl (c5 - 1)) rest ∧ Below w.heap.size w WZ) := ⟨⟨_, _, rfl⟩, ⟨some ⟨b5, o5 + 1, none⟩, c5 - 1, by rw [HRL.out]⟩, hrd, hps, hbe⟩
      have HBk : Hid (Blk WZ w.heap.size 41 [.int .u32 n, .slice a6 b0.length c6, .slice (some ⟨b5, o5 + 1, none⟩) rl (c5 - 1), .int .i64 ((sz : Int) - (tail : Int)), .int .i64 0]) := hbk
      clear hWZ hcw hbk hrd hps hbe HFin HP1 HP2
      iterate 10 (refine tree_still rfl rfl ?_; go_big_quiet_step (fail); refine wpQuiet_nil ?_)
      refine tree_one rfl rfl ?_
      go_simp
      have hw9 := HWZ.out
      unfold put5 at hw9
      rw [hw9]
      clear hw9 HWZ g0 g1 g2 g3 g4 j0 j1 j2 j3 j4
      refine ⟨⟨⟨WZ, HCW.out⟩, rfl⟩, ?_⟩
      refine tree_done ?_
      clear f5 ne5
      have g0 := HBk.out.cell 0 _ rfl
      have g1 := HBk.out.cell 1 _ rfl
      have g2 := HBk.out.cell 2 _ rfl
      have g3 := HBk.out.cell 3 _ rfl
      have g4 := HBk.out.cell 4 _ rfl
      go_wp2
      refine bodyPost_ret (v := stV n (.slice a6 b0.length c6) (.slice (some ⟨b5, o5 + 1, none⟩) rl (c5 - 1)) ((sz : Int) - (tail : Int))) ?_ rfl ⟨_, _, by rw [HRM.out], HFn.out⟩
      rw [results_cell1 rfl]
      go_simp
      rfl
end Go.Proofs.YtkcighejmjgalaaDoor
