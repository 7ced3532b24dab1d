/-
  A step put among others: slices.Insert.
-/
import Derived.Test.YthnjbjlhfohpfaaGreatUdI0
import Derived.Laws.Tables
namespace Go.Proofs.YthnjbjlhfohpfaaGreat
set_option linter.unusedVariables false
set_option linter.unusedSimpArgs false
set_option synthInstance.maxSize 20000
set_option maxHeartbeats 2000000
set_option maxRecDepth 20000
open Go.RowKit Go.Maps

/-- 'append(s, x)' of one step. -/
theorem run_append_step (w : World) (v : Value) (l : List ST) (h : ST) (vb : Nat) (hown : SRow w v l) (hX : Blk w vb 73 (tc h)) (hl : l.length ≤ 1000) :
    ∃ v' w', (∀ ty, (Builtin.append_ #[64, 64] ty #[v, .slice (some ⟨vb, 0, none⟩) 1 1]).run Tryz.prog w = .ok v' w') ∧ SRow w' v' (l ++ [h]) ∧ w.grownBy w' v.ownBlock ∧ ∀ k, v'.ownBlock = some k → v.ownBlock = some k ∨ w.heap.size ≤ k := by
  obtain ⟨i, hi, hz, hs1, hs2⟩ := infoT
  have hnew : ∀ j u, (tc h)[j]? = some u → w.cell? ((⟨vb, 0, none⟩ : Addr).add j) = some u := fun j u hu => by rw [Addr.add_lit, Nat.zero_add]; exact hX.cell j u hu
  have hsz : 21 = 1 * i.size := by rw [hs1]
  rcases hown with ⟨rfl, rfl⟩ | ⟨g, cap, t, rfl, hY, h3, h2, h4⟩
  · have hr := fun ty => run_append_nil (P := Tryz.prog) (w := w) 64 ty 73 i (tv tz) Tryz.underlying64 hi hz ⟨vb, 0, none⟩ 1 1 (tc h) (by rw [tc_len]; exact hsz) hnew (by omega) (by omega) (by rw [hs2]; omega)
    obtain ⟨G, hG⟩ : ∃ G, G = grownCap w 1 0 73 := ⟨_, rfl⟩
    have hG1 : 1 ≤ G := by rw [hG]; exact grownCap_ge w _ _ _
    have hGm : G ≤ maxLen := by rw [hG]; exact grownCap_le_maxLen w 1 0 73 (by unfold maxLen; omega)
    rw [← hG] at hr
    refine ⟨_, _, hr, ?_, ?_, fun k hk => by cases hk; exact .inr (Nat.le_refl _)⟩
    · have e : (tc h).toArray ++ Builtin.zeroCells (tv tz).cells (G - 1) = (tc h ++ (Builtin.zeroCells (tv tz).cells (G - 1)).toList).toArray := by apply Array.ext'; simp
      rw [e]
      have hb := blk_new w.drew (tc h ++ (Builtin.zeroCells (tv tz).cells (G - 1)).toList) 73
      refine .inr ⟨w.heap.size, G, (Builtin.zeroCells (tv tz).cells (G - 1)).toList, rfl, ?_, ?_, hGm, zero_noB _⟩
      · rw [show flat tc ([] ++ [h]) = tc h from by simp [flat]]
        exact hb
      · rw [List.length_append, zero_len, ftc_len]
        simp; omega
    · exact ⟨rfl, rfl, rfl, by simp, fun k hk _ => (balloc (below_drewn w 1) _).block k hk⟩
  · have hcl : l.length * 21 + t.length = cap * 21 := by rw [List.length_append, ftc_len] at h3; exact h3
    by_cases hroom : l.length + 1 ≤ cap
    · have hr := fun ty => run_append_room (P := Tryz.prog) (w := w) 64 ty 73 i Tryz.underlying64 hi g l.length cap (flat tc l ++ t).toArray hY ⟨vb, 0, none⟩ 1 1 (tc h) (by rw [tc_len]; exact hsz) hnew (tc_one h) hroom (by rw [hs1, tc_len, List.size_toArray, h3]; omega)
      refine ⟨_, _, hr, ?_, ⟨rfl, rfl, rfl, by simp, fun k _ hk => setRow_other w g k _ (fun e => hk (by rw [e]; rfl))⟩, fun k hk => .inl hk⟩
      rw [hs1]
      have hb : Blk (w.setRow g ((flat tc l ++ t).toArray.toList.take (l.length * 21) ++ tc h ++ (flat tc l ++ t).toArray.toList.drop (l.length * 21 + (tc h).length)).toArray) g 73 (flat tc l ++ tc h ++ t.drop 21) := by
        have := setRow_heap w g _ ((flat tc l ++ t).toArray.toList.take (l.length * 21) ++ tc h ++ (flat tc l ++ t).toArray.toList.drop (l.length * 21 + (tc h).length)).toArray 73 (0, 0) hY
        have e : (flat tc l ++ t).toArray.toList.take (l.length * 21) ++ tc h ++ (flat tc l ++ t).toArray.toList.drop (l.length * 21 + (tc h).length) = flat tc l ++ tc h ++ t.drop 21 := by
          show (flat tc l ++ t).take (l.length * 21) ++ tc h ++ (flat tc l ++ t).drop (l.length * 21 + (tc h).length) = _
          rw [← ftc_len, List.take_append_of_le_length (Nat.le_refl _), List.take_of_length_le (Nat.le_refl _), List.drop_append, List.drop_eq_nil_of_le (by omega), tc_len]
          simp
        rw [e] at this ⊢
        exact this
      refine .inr ⟨g, cap, t.drop 21, by simp, ?_, ?_, h2, h4.drop 21⟩
      · rw [flat_append, show flat tc [h] = tc h from by simp [flat]]
        exact hb
      · rw [List.length_append, ftc_len, List.length_drop, List.length_append]
        simp; omega
    · have hr := fun ty => run_append_grow (P := Tryz.prog) (w := w) 64 ty 73 i (tv tz) Tryz.underlying64 hi hz ⟨g, 0, none⟩ l.length cap (flat tc l) (by rw [ftc_len, hs1]) (fun j u hu => by
          rw [Addr.add_lit, Nat.zero_add]
          exact hY.cell j u (by rw [List.getElem?_append_left (List.getElem?_eq_some_iff.1 hu).1]; exact hu)) ⟨vb, 0, none⟩ 1 1 (tc h) (by rw [tc_len]; exact hsz) hnew (by omega) (by omega) (by rw [hs2]; exact growslice_fits (by omega) (by omega))
      obtain ⟨G, hG⟩ : ∃ G, G = grownCap w (l.length + 1) cap 73 := ⟨_, rfl⟩
      have hG1 : l.length + 1 ≤ G := by rw [hG]; exact grownCap_ge w _ _ _
      have hGm : G ≤ maxLen := by rw [hG]; exact grownCap_le_maxLen w (l.length + 1) cap 73 (by unfold maxLen; omega)
      rw [← hG] at hr
      refine ⟨_, _, hr, ?_, ⟨rfl, rfl, rfl, by simp, fun k hk _ => (balloc (below_drewn w 1) _).block k hk⟩, fun k hk => by cases hk; exact .inr (Nat.le_refl _)⟩
      have e : (flat tc l).toArray ++ (tc h).toArray ++ Builtin.zeroCells (tv tz).cells (G - (l.length + 1)) = (flat tc (l ++ [h]) ++ (Builtin.zeroCells (tv tz).cells (G - (l.length + 1))).toList).toArray := by
        apply Array.ext'
        rw [flat_append, show flat tc [h] = tc h from by simp [flat]]
        simp
      rw [e]
      have hb := blk_new w.drew (flat tc (l ++ [h]) ++ (Builtin.zeroCells (tv tz).cells (G - (l.length + 1))).toList) 73
      refine .inr ⟨w.heap.size, G, _, by simp, hb, ?_, hGm, zero_noB _⟩
      rw [List.length_append, zero_len, ftc_len, List.length_append]
      simp; omega
set_option maxHeartbeats 4000000 in
/-- A step put behind all others. -/
theorem insert_end (v : Value) (l : List ST) (h : ST) (vb : Nat) (w : World) (hown : SRow w v l) (hX : Blk w vb 73 (tc h)) (hl : l.length ≤ 1000) :
    Calls Tryz.prog 39 #[v, .int .i64 l.length, .slice (some ⟨vb, 0, none⟩) 1 1] w fun e w' => ∃ v', e = .returned v' ∧ SRow w' v' (l ++ [h]) ∧ w.grownBy w' v.ownBlock ∧ ∀ k, v'.ownBlock = some k → v.ownBlock = some k ∨ w.heap.size ≤ k := by
  obtain ⟨v', w', hr, h1, h2, h3⟩ := run_append_step w v l h vb hown hX hl
  obtain ⟨ad, c, rfl⟩ := hown.len
  have hcap := hown.rowF.caps
  have H1 : Hid (SRow w' v' (l ++ [h])) := h1
  have H2 : Hid (w.grownBy w' (Value.slice ad l.length c).ownBlock) := h2
  have H3 : Hid (∀ k, v'.ownBlock = some k → (Value.slice ad l.length c).ownBlock = some k ∨ w.heap.size ≤ k) := h3
  clear h1 h2 h3 hown hX
  by_cases hceq : c = l.length
  all_goals
    try subst hceq
    go_enter Tryz.func39, Tryz.ntmps39
    go_wp2_with (at_builtin; go_must (refine wpList_append_at rfl (.tmp 23) (.tmp 24) 64 64 rfl _ _ rfl rfl hr ?_))
    go_ret
    exact ⟨_, rfl, H1.out, H2.out, H3.out⟩
set_option maxHeartbeats 4000000 in
set_option maxRecDepth 20000 in
theorem insert_room (g n c i vb : Nat) (l : List ST) (t : List Value) (h : ST) (w : World) (hn : l.length = n) (hY : Blk w g 73 (flat tc l ++ t)) (hX : Blk w vb 73 (tc h)) (hl : n ≤ 1000) (hi : i < n) (hroom : n + 1 ≤ c) (hc63 : c ≤ maxLen) (hsz : (flat tc l ++ t).length = c * 21) (hne : vb ≠ g) (ht : NoB t) :
    Calls Tryz.prog 39 #[.slice (some ⟨g, 0, none⟩) n c, .int .i64 i, .slice (some ⟨vb, 0, none⟩) 1 1] w fun e w' => e = .returned (.slice (some ⟨g, 0, none⟩) (n + 1) c) ∧ SRow w' (.slice (some ⟨g, 0, none⟩) (n + 1) c) (l.take i ++ h :: l.drop i) ∧ w.grownBy w' (some g) := by
  have hcs := ftc_len l
  have hlt : (flat tc l ++ t).length = l.length * 21 + t.length := by rw [List.length_append, hcs]
  have hD : (flat tc (l.drop i)).length = (n - i) * 21 := by rw [ftc_len, List.length_drop, hn]
  have hov := fun (W : World) (hW : W = w) lb cb => overlaps_any w vb g ((i + 1) * 21) 1 1 lb cb _ _ hX hY hne (by omega)
  have hc2 : c ≤ 9223372036854775807 := by unfold maxLen at hc63; omega
  have hdcell : ∀ j u, (flat tc (l.drop i))[j]? = some u → w.cell? ⟨g, i * 21 + j, none⟩ = some u := hY.cells (i * 21) _ (fun j u hu => by
    have hj : j < (n - i) * 21 := by have := (List.getElem?_eq_some_iff.1 hu).1; omega
    rw [← ftc_drop l i, List.getElem?_drop] at hu
    rw [List.getElem?_append_left (by omega)]
    exact hu)
  obtain ⟨Y1, g1⟩ := Blk.setsX (flat tc (l.drop i)) ((i + 1) * 21) w.drew _ (show Blk w.drew g 73 (flat tc l ++ t) from hY) (by omega)
  obtain ⟨W1, hW1⟩ : ∃ W1, W1 = w.drew.setCells g ((i + 1) * 21) (flat tc (l.drop i)) := ⟨_, rfl⟩
  have hcp1 : ∀ dc sc ty, (Builtin.copy_ #[64, 64] ty #[.slice (some ⟨g, (i + 1) * 21, none⟩) (n - i) dc, .slice (some ⟨g, i * 21, none⟩) (n + 1 - i) sc]).run Tryz.prog w.drew = .ok (goInt (Nat.min (n + 1 - i) (n - i))) W1 := fun dc sc ty => by
    rw [hW1]
    refine run_copy_heads w.drew 64 64 ty g ((i + 1) * 21) (n - i) dc ⟨g, i * 21, none⟩ (n + 1 - i) sc (flat tc (l.drop i)) Tryz.underlying64 (by rw [hD]; simp only [Nat.min_def]; split <;> omega) (fun j u hu => by rw [Addr.add_lit]; exact hdcell j u hu)
      (fun j hj => Blk.isIn (show Blk w.drew g 73 (flat tc l ++ t) from hY) _ (by omega)) (fun j hj => Blk.frozen (show Blk w.drew g 73 (flat tc l ++ t) from hY) _) (flat_tc_one _)
  rw [← hW1] at Y1 g1
  have X1 : Blk W1 vb 73 (tc h) := Blk.block hX (g1.block vb hX.lt (fun e => hne (Option.some.inj e)))
  have hl1 := spl_len (flat tc l ++ t) ((i + 1) * 21) (flat tc (l.drop i)) (by omega)
  obtain ⟨Y2, g2⟩ := Blk.setsX (tc h) (i * 21) W1 _ Y1 (by rw [hl1, tc_len]; omega)
  have hcp2 : ∀ dc ty, (Builtin.copy_ #[64, 64] ty #[.slice (some ⟨g, i * 21, none⟩) (n + 1 - i) dc, .slice (some ⟨vb, 0, none⟩) 1 1]).run Tryz.prog W1 = .ok (goInt (Nat.min 1 (n + 1 - i))) (W1.setCells g (i * 21) (tc h)) := fun dc ty =>
    run_copy_heads W1 64 64 ty g (i * 21) (n + 1 - i) dc ⟨vb, 0, none⟩ 1 1 (tc h) Tryz.underlying64 (by rw [tc_len]; simp only [Nat.min_def]; split <;> omega) (fun j u hu => by rw [Addr.add_lit, Nat.zero_add]; exact X1.cell j u hu)
      (fun j hj => Y1.isIn _ (by rw [hl1]; rw [tc_len] at hj; omega)) (fun j hj => Y1.frozen _) (tc_one h)
  have HF : Hid (SRow (W1.setCells g (i * 21) (tc h)) (.slice (some ⟨g, 0, none⟩) (n + 1) c) (l.take i ++ h :: l.drop i)) := by
    have e := mid_len l i h (by omega)
    have := srow_of (S := l.take i ++ h :: l.drop i) (g := g) (cap := c) Y2 (by
      rw [e, ftc_mid]
      have := spl_down (flat tc l ++ t) (flat tc (l.take i)) (tc h) (flat tc (l.drop i)) (i * 21) (by rw [List.take_append_of_le_length (by omega)]; exact ftc_take l i) (by rw [ftc_len, List.length_take]; omega) (by rw [tc_len]; omega)
      rw [tc_len, hD] at this
      rw [show (l.length + 1) * 21 = i * 21 + 21 + (n - i) * 21 by omega, ← this, show (i + 1) * 21 = i * 21 + 21 by omega]) (by rw [spl_len _ _ _ (by rw [hl1, tc_len]; omega), hl1]; exact hsz) hc63 (NoB.drop (NoB.spl (NoB.spl ((noB_flat l).append ht) (noB_flat _)) (noB_tc h)) _)
    rw [e, hn] at this
    exact this
  have HG : Hid (w.grownBy (W1.setCells g (i * 21) (tc h)) (some g)) := grown_trans (w1 := W1) (show w.grownBy W1 (some g) from ⟨g1.os, g1.tape, g1.output, g1.size, g1.block⟩) g2 (fun k hk => .inl hk)
  have hz2 : ¬ ((i : Int) = (n : Int)) := by omega
  have hb2 : ¬ (c = i + 1) := by omega
  have hb4 : ¬ (c = i) := by omega
  have hw1 : ((i : Int) + 1).toNat = i + 1 := by omega
  have hov1 := hov w rfl
  clear hov Y1 Y2 g1 g2 X1 hY hX hdcell hl1 hD hcs hlt hsz hn hW1
  go_enter Tryz.func39, Tryz.ntmps39
  go_upto_region 15 with (simp only [hov1])
  have ne : Nonempty (WIn (fun _ => True)) := ⟨⟨w, trivial⟩⟩
  refine wp_region_ord (C := fun w' => ∃ z : WIn (fun _ => True), w' = z.w) [(false, 0), (false, 1), (false, 2), (false, 3), (false, 4), (false, 5), (false, 6), (false, 7), (true, 8)] (by kernel_rfl) (by kernel_rfl) ⟨⟨w.drew, trivial⟩, rfl⟩ ?_
  iterate 8 (refine ord_still rfl rfl ?_; go_big_quiet_step (fail); refine wpQuiet_nil ?_)
  refine ord_mem rfl rfl ?_
  refine wp_of_list rfl ?_
  refine wpList_copy_heads rfl (.tmp 73) (.tmp 76) 64 64 rfl (.slice (some ⟨g, (i + 1) * 21, none⟩) (n - i) (c - (i + 1))) (.slice (some ⟨g, i * 21, none⟩) (n + 1 - i) (c - i)) rfl rfl (hcp1 _ _) ?_
  refine ⟨rfl, ⟨⟨W1, trivial⟩, rfl⟩, ?_⟩
  refine ord_end ?_
  clear ne hcp1 hov1
  go_wp2_with (refine wpList_copy_heads rfl (.tmp 80) (.tmp 81) 64 64 rfl (.slice (some ⟨g, i * 21, none⟩) (n + 1 - i) (c - i)) (.slice (some ⟨vb, 0, none⟩) 1 1) rfl rfl (hcp2 _) ?_)
  go_ret
  exact ⟨rfl, HF.out, HG.out⟩

set_option maxHeartbeats 4000000 in
set_option maxRecDepth 20000 in
theorem insert_grow (g n c i vb : Nat) (l : List ST) (t : List Value) (h : ST) (w : World) (hn : l.length = n) (hY : Blk w g 73 (flat tc l ++ t)) (hX : Blk w vb 73 (tc h)) (hl : n ≤ 1000) (hi : i < n) (hnc : n ≤ c) (hroom : c < n + 1) :
    Calls Tryz.prog 39 #[.slice (some ⟨g, 0, none⟩) n c, .int .i64 i, .slice (some ⟨vb, 0, none⟩) 1 1] w fun e w' => ∃ v', e = .returned v' ∧ SRow w' v' (l.take i ++ h :: l.drop i) ∧ Below w.heap.size w w' ∧ ∀ k, v'.ownBlock = some k → w.heap.size ≤ k := by
  obtain ⟨i0, hi0, hz0, hs1, hs2⟩ := infoT
  have hcs := ftc_len l
  have hD : (flat tc (l.drop i)).length = (n - i) * 21 := by rw [ftc_len, List.length_drop, hn]
  have hT : (flat tc (l.take i)).length = i * 21 := by rw [ftc_len, List.length_take]; omega
  have hold : (Builtin.firstCells i0.size i (.slice (some ⟨g, 0, none⟩) i c)).run Tryz.prog w.drew = .ok (flat tc (l.take i)).toArray w.drew := by
    rw [hs1]
    exact run_firstCells_some w.drew 21 i ⟨g, 0, none⟩ i c (flat tc (l.take i)) hT (fun j v hj => by
      rw [Addr.add_lit, Nat.zero_add]
      refine hY.cell j v ?_
      have hjl : j < i * 21 := by have := (List.getElem?_eq_some_iff.1 hj).1; omega
      rw [← ftc_take l i, List.getElem?_take, if_pos hjl] at hj
      rw [List.getElem?_append_left (by omega)]
      exact hj)
  obtain ⟨G, hG⟩ : ∃ G, G = grownCap w (n + 1) c 73 := ⟨_, rfl⟩
  obtain ⟨ROW, hROW⟩ : ∃ ROW : List Value, ROW = flat tc (l.take i) ++ (Builtin.zeroCells (tv tz).cells (n + 1 - i)).toList ++ (Builtin.zeroCells (tv tz).cells (G - (n + 1))).toList := ⟨_, rfl⟩
  obtain ⟨W1, hW1⟩ : ∃ W1, W1 = w.drew.alloc (.cells ROW.toArray 73) := ⟨_, rfl⟩
  have hGn : n + 1 ≤ G := by rw [hG]; exact grownCap_ge w _ _ _
  have hGm : G ≤ maxLen := by rw [hG]; exact grownCap_le_maxLen w (n + 1) c 73 (by unfold maxLen; omega)
  have hrz : ∀ ty, (Builtin.append_ #[64, 3] ty #[.slice (some ⟨g, 0, none⟩) i c, .int .i64 ((n : Int) + 1 - (i : Int))]).run Tryz.prog w = .ok (.slice (some ⟨w.heap.size, 0, none⟩) (n + 1) G) W1 := fun ty => by
    have q := Lib.run_append_grow_zeros w 64 3 ty 73 i0 _ .i64 .i64 Tryz.underlying64 Tryz.underlying3 hi0 hz0 (some ⟨g, 0, none⟩) i c (flat tc (l.take i)) hold (n + 1 - i) (by omega) (by omega) (by omega) (by omega) (by rw [hs2]; omega) (by rw [hs2]; exact growslice_fits (by omega) (by omega))
    rw [show i + (n + 1 - i) = n + 1 by omega, ← hG] at q
    rw [show (n : Int) + 1 - (i : Int) = ((n + 1 - i : Nat) : Int) by omega, q, hW1]
    congr 3
    rw [hROW]
    apply Array.ext'
    simp
  have hRl : ROW.length = G * 21 := by rw [hROW, List.length_append, List.length_append, hT, zero_len, zero_len]; omega
  have hRt : ROW.take (i * 21) = flat tc (l.take i) := by rw [hROW, List.append_assoc, List.take_append_of_le_length (by omega), List.take_of_length_le (by omega)]
  have hRn : NoB ROW := by rw [hROW]; exact ((noB_flat _).append (zero_noB _)).append (zero_noB _)
  obtain ⟨nb, hnb⟩ : ∃ nb, nb = w.heap.size := ⟨_, rfl⟩
  have Y1 : Blk W1 nb 73 ROW := by rw [hW1, hnb]; exact blk_new w.drew ROW 73
  have hb1 : Below w.heap.size w W1 := by rw [hW1]; exact balloc (Below.refl _ w).drew _
  have X1 := hX.below hb1
  have Z1 := hY.below hb1
  obtain ⟨Y2, g2⟩ := Blk.setsX (tc h) (i * 21) W1 _ Y1 (by rw [tc_len]; omega)
  have hcp1 : ∀ dc ty, (Builtin.copy_ #[64, 64] ty #[.slice (some ⟨nb, i * 21, none⟩) (n + 1 - i) dc, .slice (some ⟨vb, 0, none⟩) 1 1]).run Tryz.prog W1 = .ok (goInt (Nat.min 1 (n + 1 - i))) (W1.setCells nb (i * 21) (tc h)) := fun dc ty =>
    run_copy_heads W1 64 64 ty nb (i * 21) (n + 1 - i) dc ⟨vb, 0, none⟩ 1 1 (tc h) Tryz.underlying64 (by rw [tc_len]; simp only [Nat.min_def]; split <;> omega) (fun j u hu => by rw [Addr.add_lit, Nat.zero_add]; exact X1.cell j u hu)
      (fun j hj => Y1.isIn _ (by rw [tc_len] at hj; omega)) (fun j hj => Y1.frozen _) (tc_one h)
  obtain ⟨W2, hW2⟩ : ∃ W2, W2 = W1.setCells nb (i * 21) (tc h) := ⟨_, rfl⟩
  rw [← hW2] at Y2 g2 hcp1
  have hgn : g ≠ nb := by have := hY.lt; omega
  have Z2 : Blk W2 g 73 (flat tc l ++ t) := Z1.block (g2.block g Z1.lt (fun e => hgn (Option.some.inj e)))
  have hl2 := spl_len ROW (i * 21) (tc h) (by rw [tc_len]; omega)
  obtain ⟨Y3, g3⟩ := Blk.setsX (flat tc (l.drop i)) (i * 21 + (tc h).length) W2.drew _ (show Blk W2.drew nb 73 _ from Y2) (by rw [hl2, tc_len]; omega)
  have hcp2 : ∀ dc sc ty, (Builtin.copy_ #[64, 64] ty #[.slice (some ⟨nb, (i + 1) * 21, none⟩) (n - i) dc, .slice (some ⟨g, i * 21, none⟩) (n - i) sc]).run Tryz.prog W2.drew = .ok (goInt (Nat.min (n - i) (n - i))) (W2.drew.setCells nb (i * 21 + (tc h).length) (flat tc (l.drop i))) := fun dc sc ty => by
    rw [tc_len, show (i + 1) * 21 = i * 21 + 21 by omega]
    refine run_copy_heads W2.drew 64 64 ty nb (i * 21 + 21) (n - i) dc ⟨g, i * 21, none⟩ (n - i) sc (flat tc (l.drop i)) Tryz.underlying64 (by rw [hD]; simp only [Nat.min_def]; split <;> omega) (fun j u hu => ?_)
      (fun j hj => Blk.isIn (show Blk W2.drew nb 73 _ from Y2) _ (by rw [hl2]; omega)) (fun j hj => Blk.frozen (show Blk W2.drew nb 73 _ from Y2) _) (flat_tc_one _)
    rw [Addr.add_lit]
    refine Blk.cell (show Blk W2.drew g 73 (flat tc l ++ t) from Z2) _ u ?_
    have hj : j < (n - i) * 21 := by have := (List.getElem?_eq_some_iff.1 hu).1; omega
    rw [← ftc_drop l i, List.getElem?_drop] at hu
    rw [List.getElem?_append_left (by omega)]
    exact hu
  obtain ⟨W3, hW3⟩ : ∃ W3, W3 = W2.drew.setCells nb (i * 21 + (tc h).length) (flat tc (l.drop i)) := ⟨_, rfl⟩
  rw [← hW3] at Y3 g3 hcp2
  have HF : Hid (SRow W3 (.slice (some ⟨nb, 0, none⟩) (n + 1) G) (l.take i ++ h :: l.drop i)) := by
    have e := mid_len l i h (by omega)
    have := srow_of (S := l.take i ++ h :: l.drop i) (g := nb) (cap := G) Y3 (by
      rw [e, ftc_mid]
      have := spl_up ROW (flat tc (l.take i)) (tc h) (flat tc (l.drop i)) (i * 21) hRt hT (by rw [tc_len]; omega)
      rw [← this, hD, tc_len]
      congr 1
      omega) (by rw [spl_len _ _ _ (by rw [hl2, tc_len]; omega), hl2]; exact hRl) hGm (NoB.drop (NoB.spl (NoB.spl hRn (noB_tc h)) (noB_flat _)) _)
    rw [e, hn] at this
    exact this
  have HG : Hid (Below w.heap.size w W3) := bgrown (bgrown hb1 (by omega) g2).drew (by omega) g3
  have hG2 : G ≤ 9223372036854775807 := by unfold maxLen at hGm; omega
  have hz2 : ¬ ((i : Int) = (n : Int)) := by omega
  have hb2 : ¬ (G = i + 1) := by omega
  have hb3 : ¬ (G = i) := by omega
  have hb4 : ¬ (c = i) := by omega
  have hw1 : ((i : Int) + 1).toNat = i + 1 := by omega
  rw [← hnb] at hrz
  have HNB : Hid (w.heap.size ≤ nb) := by show _ ≤ _; omega
  clear Y1 Y2 Y3 g2 g3 X1 Z1 Z2 hY hX hl2 hD hcs hT hold hRl hRt hb1 hW1 hW2 hW3 hROW hG hn hi0 hz0 hnb hgn
  go_enter Tryz.func39, Tryz.ntmps39
  go_upto_region 11 with (first
    | (at_builtin; go_must (refine wpList_append_at rfl (.tmp 34) (.tmp 39) 64 3 rfl (.slice (some ⟨g, 0, none⟩) i c) (.int .i64 ((n : Int) + 1 - (i : Int))) rfl rfl hrz ?_))
    | (refine wpList_copy_heads rfl (.tmp 43) (.tmp 44) 64 64 rfl (.slice (some ⟨nb, i * 21, none⟩) (n + 1 - i) (G - i)) (.slice (some ⟨vb, 0, none⟩) 1 1) rfl rfl (hcp1 _) ?_))
  go_simp
  have ne : Nonempty (WIn (fun _ => True)) := ⟨⟨w, trivial⟩⟩
  refine wp_region_ord (C := fun w' => ∃ z : WIn (fun _ => True), w' = z.w) [(false, 0), (false, 1), (false, 2), (false, 3), (false, 4), (false, 5), (false, 6), (false, 7), (true, 8)] (by kernel_rfl) (by kernel_rfl) ⟨⟨W2.drew, trivial⟩, rfl⟩ ?_
  iterate 8 (refine ord_still rfl rfl ?_; go_big_quiet_step (fail); refine wpQuiet_nil ?_)
  refine ord_mem rfl rfl ?_
  refine wp_of_list rfl ?_
  refine wpList_copy_heads rfl (.tmp 50) (.tmp 53) 64 64 rfl (.slice (some ⟨nb, (i + 1) * 21, none⟩) (n - i) (G - (i + 1))) (.slice (some ⟨g, i * 21, none⟩) (n - i) (c - i)) rfl rfl (hcp2 _ _) ?_
  refine ⟨rfl, ⟨⟨W3, trivial⟩, rfl⟩, ?_⟩
  refine ord_end ?_
  clear ne hcp1 hcp2 hrz
  go_wp2
  go_ret
  exact ⟨_, rfl, HF.out, HG.out, fun k hk => by cases hk; exact HNB.out⟩

/-- A step put between others, in a row of the program's own. -/
theorem insert_any (v : Value) (l : List ST) (i : Nat) (h : ST) (vb : Nat) (w : World) (hown : SRow w v l) (hX : Blk w vb 73 (tc h)) (hi : i ≤ l.length) (hl : l.length ≤ 1000) (hne : v.ownBlock ≠ some vb) :
    Calls Tryz.prog 39 #[v, .int .i64 i, .slice (some ⟨vb, 0, none⟩) 1 1] w fun e w' => ∃ v', e = .returned v' ∧ SRow w' v' (l.take i ++ h :: l.drop i) ∧ w.grownBy w' v.ownBlock ∧ ∀ k, v'.ownBlock = some k → v.ownBlock = some k ∨ w.heap.size ≤ k := by
  rcases Nat.lt_or_ge i l.length with hlt | hge
  · rcases hown with ⟨rfl, rfl⟩ | ⟨g, cap, t, rfl, hY, h3, h2, h4⟩
    · simp at hlt
    · have h1 : l.length ≤ cap := by rw [List.length_append, ftc_len] at h3; omega
      by_cases hr : l.length + 1 ≤ cap
      · refine (insert_room g l.length cap i vb l t h w rfl hY hX hl hlt hr h2 h3 (fun e => hne (by rw [e]; rfl)) h4).mono ?_
        rintro e w' ⟨q1, q2, q3⟩
        exact ⟨_, q1, q2, q3, fun k hk => .inl hk⟩
      · refine (insert_grow g l.length cap i vb l t h w rfl hY hX hl hlt h1 (by omega)).mono ?_
        rintro e w' ⟨v', q1, q2, q3, q4⟩
        exact ⟨v', q1, q2, ⟨q3.os, q3.tape, q3.output, q3.size, fun k hk _ => q3.block k hk⟩, fun k hk => .inr (q4 k hk)⟩
  · obtain rfl : i = l.length := by omega
    rw [List.take_length, List.drop_length]
    exact insert_end v l h vb w hown hX hl
end Go.Proofs.YthnjbjlhfohpfaaGreat
