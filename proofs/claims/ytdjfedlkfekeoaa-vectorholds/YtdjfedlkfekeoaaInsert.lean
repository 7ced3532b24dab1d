/-
  A copy of a vector (slices.Clone), and a head put between others (slices.Insert).
-/
import Derived.Test.YtdjfedlkfekeoaaInsMem
import Derived.Test.YtdjfedlkfekeoaaTwo
namespace Go.Proofs.Ytdjfedlkfekeoaa
set_option linter.unusedVariables false
set_option linter.unusedSimpArgs false
open Go.RowKit

theorem own_empty (w : World) : OwnH w.heap.size (w.alloc (.cells #[] 25)) (.slice (some ⟨w.heap.size, 0, none⟩) 0 0) [] := by
  have X := blk_new w [] 25
  exact blk_own (l := []) (cap := 0) (fun _ h => by cases h) (Nat.le_refl _) X rfl (Nat.le_refl _) (by unfold maxLen; omega) rfl

set_option maxHeartbeats 1000000 in
theorem clone_any (v : Value) (l : List H) (w : World) (hv0 : RdH w v l) (hl : l.length ≤ 1000000) :
    Calls Try.prog 32 #[v] w fun e w' => ∃ v', e = .returned v' ∧ OwnH w.heap.size w' v' l ∧ Below w.heap.size w w' := by
  obtain ⟨ho, a, cap, rfl, h1, h2, h3, h4⟩ := id hv0
  have HV : Hid (RdH w (.slice a l.length cap) l) := hv0
  clear hv0
  cases a with
  | none =>
    have hc := h3 rfl
    obtain rfl : l = [] := List.eq_nil_of_length_eq_zero (by omega)
    subst hc
    have hq := Lib.run_eql_slice_nil (P := Try.prog) w 28 25 none 0 0 0 0 Try.underlying28
    clear h1 h2 h3 h4 ho
    go_enter Try.func32, Try.ntmps32
    go_wp2
    go_ret
    exact ⟨_, rfl, ownH_nil _ _, Below.refl _ _⟩
  | some ad =>
    have hq := Lib.run_eql_slice_nil (P := Try.prog) w 28 25 (some ad) l.length cap 0 0 Try.underlying28
    clear h1 h2 h3 h4 ho
    go_enter Try.func32, Try.ntmps32
    go_wp2_with (at_builtin; go_must (refine wpList_append_heads 28 Try.underlying28 rfl (.tmp 5) (.tmp 6) rfl w.heap.size _ [] rfl (own_empty w) _ l rfl (HV.out.below (balloc (Below.refl _ _) _)) (by simp; omega) (by simp) ?_; intro v2 w2 hown2 hg2))
    go_ret
    refine ⟨_, rfl, hown2, ?_⟩
    exact (balloc (Below.refl _ w) _).grown hg2 (by simp) (fun k hk => (own_empty w).lt k hk |>.1)

/-- 'append(s, x)' at the names that Insert has. -/
theorem run_append_one (w : World) (B : Nat) (v : Value) (l : List H) (h : H) (vb : Nat) (hown : OwnH B w v l) (hX : Blk w vb 25 (hc h)) (hh : HOk h) (hl : l.length ≤ 1000) (hB : B ≤ w.heap.size) :
    ∃ v' w', (∀ ty, (Builtin.append_ #[28, 22] ty #[v, .slice (some ⟨vb, 0, none⟩) 1 1]).run Try.prog w = .ok v' w') ∧ OwnH B w' v' (l ++ [h]) ∧ w.grownBy w' v.ownBlock := by
  obtain ⟨i, hi, hz, hs1, hs2⟩ := infoH
  obtain ⟨v', w', h1, h2, h3, _⟩ := run_append_own (P := Try.prog) w B 28 0 25 i (.agg #[.int .i64 0, .int .i64 0, .int .u64 0]) 3 24 Try.underlying28 hi hz hs1 hs2 rfl (by decide) v l.length (csH l) hown.2 ⟨vb, 0, none⟩ 1 1 (hc h) rfl
    (fun j u hu => by rw [Addr.add_lit, Nat.zero_add]; exact hX.cell j u hu) (fun u hu => csH_one [h] u (by simpa [csH] using hu)) (by unfold maxLen; omega) (by omega) hB
  obtain ⟨ad, c, rfl⟩ := hown.rd.len
  refine ⟨v', w', fun ty => ?_, ⟨fun s hs => ?_, ?_⟩, h3⟩
  · rw [append_tx]
    exact h1
  · rcases List.mem_append.1 hs with r | r
    · exact hown.1 s r
    · simp at r; rw [r]; exact hh
  · rw [csH_append, List.length_append]
    simpa [csH] using h2

set_option maxHeartbeats 1000000 in
theorem insert_end (v : Value) (l : List H) (h : H) (vb B : Nat) (w : World) (hown : OwnH B w v l) (hX : Blk w vb 25 (hc h)) (hh : HOk h) (hl : l.length ≤ 1000) (hB : B ≤ w.heap.size) :
    Calls Try.prog 34 #[v, .int .i64 l.length, .slice (some ⟨vb, 0, none⟩) 1 1] w fun e w' => ∃ v', e = .returned v' ∧ OwnH B w' v' (l ++ [h]) ∧ w.grownBy w' v.ownBlock := by
  obtain ⟨v', w', hr, h1, h2⟩ := run_append_one w B v l h vb hown hX hh hl hB
  obtain ⟨ad, c, rfl⟩ := hown.rd.len
  have hcap := hown.rd.cap
  have H1 : Hid (OwnH B w' v' (l ++ [h])) := h1
  have H2 : Hid (w.grownBy w' (Value.slice ad l.length c).ownBlock) := h2
  clear h1 h2 hown hX
  by_cases hceq : c = l.length
  all_goals
    try subst hceq
    go_enter Try.func34, Try.ntmps34
    go_wp2_with (at_builtin; go_must (refine wpList_append_at rfl (.tmp 23) (.tmp 24) 28 22 rfl _ _ rfl rfl hr ?_))
    go_ret
    exact ⟨_, rfl, H1.out, H2.out⟩

theorem csH_take (l : List H) (i : Nat) (hi : i ≤ l.length) : (csH l).take (i * 3) = csH (l.take i) := by
  have e : csH l = csH (l.take i) ++ csH (l.drop i) := by rw [← csH_append, List.take_append_drop]
  rw [e, List.take_append_of_le_length (by rw [csH_length, List.length_take]; omega), List.take_of_length_le (by rw [csH_length, List.length_take]; omega)]
theorem csH_drop (l : List H) (i : Nat) (hi : i ≤ l.length) : (csH l).drop (i * 3) = csH (l.drop i) := by
  have e : csH l = csH (l.take i) ++ csH (l.drop i) := by rw [← csH_append, List.take_append_drop]
  rw [e, List.drop_append_of_le_length (by rw [csH_length, List.length_take]; omega), List.drop_of_length_le (by rw [csH_length, List.length_take]; omega)]
  rfl
theorem csH_mid (l : List H) (i : Nat) (h : H) : csH (l.take i ++ h :: l.drop i) = csH (l.take i) ++ hc h ++ csH (l.drop i) := by rw [csH_append, csH_cons, List.append_assoc]
theorem mid_len (l : List H) (i : Nat) (h : H) (hi : i ≤ l.length) : (l.take i ++ h :: l.drop i).length = l.length + 1 := by simp; omega
theorem mid_ok {l : List H} {i : Nat} {h : H} (hl : ∀ s ∈ l, HOk s) (hh : HOk h) : ∀ s ∈ l.take i ++ h :: l.drop i, HOk s := fun s hs => by
  rcases List.mem_append.1 hs with r | r
  · exact hl s (List.mem_of_mem_take r)
  · rcases List.mem_cons.1 r with r | r
    · rw [r]; exact hh
    · exact hl s (List.mem_of_mem_drop r)
theorem hc_len (h : H) : (hc h).length = 3 := rfl

set_option maxHeartbeats 4000000 in
set_option maxRecDepth 20000 in
theorem insert_room (g n c i vb B : Nat) (l : List H) (t : List Value) (h : H) (w : World) (hn : l.length = n) (hY : Blk w g 25 (csH l ++ t)) (hX : Blk w vb 25 (hc h)) (hl : n ≤ 1000) (hi : i < n) (hroom : n + 1 ≤ c) (hc63 : c ≤ maxLen) (hsz : (csH l ++ t).length = c * 3) (hne : vb ≠ g) (hB : B ≤ g) (hok : ∀ s ∈ l, HOk s) (hh : HOk h) :
    Calls Try.prog 34 #[.slice (some ⟨g, 0, none⟩) n c, .int .i64 i, .slice (some ⟨vb, 0, none⟩) 1 1] w fun e w' => ∃ v', e = .returned v' ∧ OwnH B w' v' (l.take i ++ h :: l.drop i) ∧ w.grownBy w' (some g) := by
  have hcs := csH_length l
  have hlt : (csH l ++ t).length = l.length * 3 + t.length := by rw [List.length_append, hcs]
  have hD : (csH (l.drop i)).length = (n - i) * 3 := by rw [csH_length, List.length_drop, hn]
  have hov := fun (W : World) (hW : W = w) lb cb => overlaps_any w vb g ((i + 1) * 3) 1 1 lb cb _ _ hX hY hne (by omega)
  have hc2 : c ≤ 9223372036854775807 := by unfold maxLen at hc63; omega
  have hdcell : ∀ j u, (csH (l.drop i))[j]? = some u → w.cell? ⟨g, i * 3 + j, none⟩ = some u := hY.cells (i * 3) _ (fun j u hu => by
    have hj : j < (n - i) * 3 := by have := (List.getElem?_eq_some_iff.1 hu).1; omega
    rw [← csH_drop l i (by omega), List.getElem?_drop] at hu
    rw [List.getElem?_append_left (by omega)]
    exact hu)
  obtain ⟨Y1, g1⟩ := Blk.setsX (csH (l.drop i)) ((i + 1) * 3) w.drew _ (show Blk w.drew g 25 (csH l ++ t) from hY) (by omega)
  obtain ⟨W1, hW1⟩ : ∃ W1, W1 = w.drew.setCells g ((i + 1) * 3) (csH (l.drop i)) := ⟨_, rfl⟩
  have hcp1 : ∀ dc sc ty, (Builtin.copy_ #[28, 28] ty #[.slice (some ⟨g, (i + 1) * 3, none⟩) (n - i) dc, .slice (some ⟨g, i * 3, none⟩) (n + 1 - i) sc]).run Try.prog w.drew = .ok (goInt (Nat.min (n + 1 - i) (n - i))) W1 := fun dc sc ty => by
    rw [hW1]
    refine run_copy_heads w.drew 28 28 ty g ((i + 1) * 3) (n - i) dc ⟨g, i * 3, none⟩ (n + 1 - i) sc (csH (l.drop i)) Try.underlying28 (by rw [hD]; simp only [Nat.min_def]; split <;> omega) (fun j u hu => by rw [Addr.add_lit]; exact hdcell j u hu)
      (fun j hj => Blk.isIn (show Blk w.drew g 25 (csH l ++ t) from hY) _ (by omega)) (fun j hj => Blk.frozen (show Blk w.drew g 25 (csH l ++ t) from hY) _) (csH_one _)
  rw [← hW1] at Y1 g1
  have X1 : Blk W1 vb 25 (hc h) := Blk.block hX (g1.block vb hX.lt (fun e => hne (Option.some.inj e)))
  have hl1 := spl_len (csH l ++ t) ((i + 1) * 3) (csH (l.drop i)) (by omega)
  obtain ⟨Y2, g2⟩ := Blk.setsX (hc h) (i * 3) W1 _ Y1 (by rw [hl1, hc_len]; omega)
  have hcp2 : ∀ dc ty, (Builtin.copy_ #[28, 22] ty #[.slice (some ⟨g, i * 3, none⟩) (n + 1 - i) dc, .slice (some ⟨vb, 0, none⟩) 1 1]).run Try.prog W1 = .ok (goInt (Nat.min 1 (n + 1 - i))) (W1.setCells g (i * 3) (hc h)) := fun dc ty =>
    run_copy_heads W1 28 22 ty g (i * 3) (n + 1 - i) dc ⟨vb, 0, none⟩ 1 1 (hc h) Try.underlying28 (by rw [hc_len]; simp only [Nat.min_def]; split <;> omega) (fun j u hu => by rw [Addr.add_lit, Nat.zero_add]; exact X1.cell j u hu)
      (fun j hj => Y1.isIn _ (by rw [hl1]; rw [hc_len] at hj; omega)) (fun j hj => Y1.frozen _) (fun u hu => csH_one [h] u (by simpa [csH] using hu))
  have HF : Hid (OwnH B (W1.setCells g (i * 3) (hc h)) (.slice (some ⟨g, 0, none⟩) (n + 1) c) (l.take i ++ h :: l.drop i)) := by
    have e := mid_len l i h (by omega)
    have := blk_own (B := B) (g := g) (cap := c) (mid_ok (i := i) hok hh) hB Y2 (by
      rw [e, csH_mid]
      have := spl_down (csH l ++ t) (csH (l.take i)) (hc h) (csH (l.drop i)) (i * 3) (by rw [List.take_append_of_le_length (by omega)]; exact csH_take l i (by omega)) (by rw [csH_length, List.length_take]; omega) (by rw [hc_len]; omega)
      rw [hc_len, hD] at this
      rw [show (l.length + 1) * 3 = i * 3 + 3 + (n - i) * 3 by omega, ← this, show (i + 1) * 3 = i * 3 + 3 by omega]) (by omega) hc63 (by rw [spl_len _ _ _ (by rw [hl1, hc_len]; omega), hl1]; exact hsz)
    rw [e, hn] at this
    exact this
  have HG : Hid (w.grownBy (W1.setCells g (i * 3) (hc h)) (some g)) := grown_trans (w1 := W1) (show w.grownBy W1 (some g) from ⟨g1.os, g1.tape, g1.output, g1.size, g1.block⟩) g2 (fun k hk => .inl hk)
  have hz2 : ¬ ((i : Int) = (n : Int)) := by omega
  have hb2 : ¬ (c = i + 1) := by omega
  have hb4 : ¬ (c = i) := by omega
  have hw1 : ((i : Int) + 1).toNat = i + 1 := by omega
  have hov1 := hov w rfl
  clear hov Y1 Y2 g1 g2 X1 hY hX hdcell hl1 hD hcs hlt hsz hn hW1
  go_enter Try.func34, Try.ntmps34
  go_upto_region 15 with (simp only [hov1])
  have ne : Nonempty (WIn (fun _ => True)) := ⟨⟨w, trivial⟩⟩
  refine wp_region_ord (C := fun w' => ∃ z : WIn (fun _ => True), w' = z.w) [(false, 0), (false, 1), (false, 2), (false, 3), (false, 4), (false, 5), (false, 6), (false, 7), (true, 8)] (by kernel_rfl) (by kernel_rfl) ⟨⟨w.drew, trivial⟩, rfl⟩ ?_
  iterate 8 (refine ord_still rfl rfl ?_; go_big_quiet_step (fail); refine wpQuiet_nil ?_)
  refine ord_mem rfl rfl ?_
  refine wp_of_list rfl ?_
  refine wpList_copy_heads rfl (.tmp 73) (.tmp 76) 28 28 rfl (.slice (some ⟨g, (i + 1) * 3, none⟩) (n - i) (c - (i + 1))) (.slice (some ⟨g, i * 3, none⟩) (n + 1 - i) (c - i)) rfl rfl (hcp1 _ _) ?_
  refine ⟨rfl, ⟨⟨W1, trivial⟩, rfl⟩, ?_⟩
  refine ord_end ?_
  clear ne hcp1 hov1
  go_wp2_with (refine wpList_copy_heads rfl (.tmp 80) (.tmp 81) 28 22 rfl (.slice (some ⟨g, i * 3, none⟩) (n + 1 - i) (c - i)) (.slice (some ⟨vb, 0, none⟩) 1 1) rfl rfl (hcp2 _) ?_)
  go_ret
  exact ⟨_, rfl, HF.out, HG.out⟩

theorem zero_len (n : Nat) : (Builtin.zeroCells (Value.agg #[.int .i64 0, .int .i64 0, .int .u64 0]).cells n).toList.length = n * 3 := by simp [Builtin.zeroCells, Value.cells]

set_option maxHeartbeats 4000000 in
set_option maxRecDepth 20000 in
theorem insert_grow (g n c i vb B : Nat) (l : List H) (t : List Value) (h : H) (w : World) (hn : l.length = n) (hY : Blk w g 25 (csH l ++ t)) (hX : Blk w vb 25 (hc h)) (hl : n ≤ 1000) (hi : i < n) (hnc : n ≤ c) (hroom : c < n + 1) (hB : B ≤ w.heap.size) (hok : ∀ s ∈ l, HOk s) (hh : HOk h) :
    Calls Try.prog 34 #[.slice (some ⟨g, 0, none⟩) n c, .int .i64 i, .slice (some ⟨vb, 0, none⟩) 1 1] w fun e w' => ∃ v', e = .returned v' ∧ OwnH B w' v' (l.take i ++ h :: l.drop i) ∧ Below w.heap.size w w' := by
  obtain ⟨i0, hi0, hz0, hs1, hs2⟩ := infoH
  have hcs := csH_length l
  have hD : (csH (l.drop i)).length = (n - i) * 3 := by rw [csH_length, List.length_drop, hn]
  have hT : (csH (l.take i)).length = i * 3 := by rw [csH_length, List.length_take]; omega
  have hold : (Builtin.firstCells i0.size i (.slice (some ⟨g, 0, none⟩) i c)).run Try.prog w.drew = .ok (csH (l.take i)).toArray w.drew := by
    rw [hs1]
    exact run_firstCells_some w.drew 3 i ⟨g, 0, none⟩ i c (csH (l.take i)) hT (fun j v hj => by
      rw [Addr.add_lit, Nat.zero_add]
      refine hY.cell j v ?_
      have hjl : j < i * 3 := by have := (List.getElem?_eq_some_iff.1 hj).1; omega
      rw [← csH_take l i (by omega), List.getElem?_take, if_pos hjl] at hj
      rw [List.getElem?_append_left (by omega)]
      exact hj)
  obtain ⟨G, hG⟩ : ∃ G, G = grownCap w (n + 1) c 25 := ⟨_, rfl⟩
  obtain ⟨ROW, hROW⟩ : ∃ ROW : List Value, ROW = csH (l.take i) ++ (Builtin.zeroCells (Value.agg #[.int .i64 0, .int .i64 0, .int .u64 0]).cells (n + 1 - i)).toList ++ (Builtin.zeroCells (Value.agg #[.int .i64 0, .int .i64 0, .int .u64 0]).cells (G - (n + 1))).toList := ⟨_, rfl⟩
  obtain ⟨W1, hW1⟩ : ∃ W1, W1 = w.drew.alloc (.cells ROW.toArray 25) := ⟨_, rfl⟩
  have hGn : n + 1 ≤ G := by rw [hG]; exact grownCap_ge w _ _ _
  have hGm : G ≤ maxLen := by rw [hG]; exact grownCap_le_maxLen w (n + 1) c 25 (by unfold maxLen; omega)
  have hrz : ∀ ty, (Builtin.append_ #[28, 3] ty #[.slice (some ⟨g, 0, none⟩) i c, .int .i64 ((n : Int) + 1 - (i : Int))]).run Try.prog w = .ok (.slice (some ⟨w.heap.size, 0, none⟩) (n + 1) G) W1 := fun ty => by
    have q := Lib.run_append_grow_zeros w 28 3 ty 25 i0 _ .i64 .i64 Try.underlying28 Try.underlying3 hi0 hz0 (some ⟨g, 0, none⟩) i c (csH (l.take i)) hold (n + 1 - i) (by omega) (by omega) (by omega) (by omega) (by rw [hs2]; omega) (by rw [hs2]; exact growslice_fits (by omega) (by omega))
    rw [show i + (n + 1 - i) = n + 1 by omega, ← hG] at q
    rw [show (n : Int) + 1 - (i : Int) = ((n + 1 - i : Nat) : Int) by omega, q, hW1]
    congr 3
    rw [hROW]
    apply Array.ext'
    simp
  have hRl : ROW.length = G * 3 := by rw [hROW, List.length_append, List.length_append, hT, zero_len, zero_len]; omega
  have hRt : ROW.take (i * 3) = csH (l.take i) := by rw [hROW, List.append_assoc, List.take_append_of_le_length (by omega), List.take_of_length_le (by omega)]
  obtain ⟨nb, hnb⟩ : ∃ nb, nb = w.heap.size := ⟨_, rfl⟩
  have Y1 : Blk W1 nb 25 ROW := by rw [hW1, hnb]; exact blk_new w.drew ROW 25
  have hb1 : Below w.heap.size w W1 := by rw [hW1]; exact balloc (Below.refl _ w).drew _
  have X1 := hX.below hb1
  have Z1 := hY.below hb1
  obtain ⟨Y2, g2⟩ := Blk.setsX (hc h) (i * 3) W1 _ Y1 (by rw [hc_len]; omega)
  have hcp1 : ∀ dc ty, (Builtin.copy_ #[28, 22] ty #[.slice (some ⟨nb, i * 3, none⟩) (n + 1 - i) dc, .slice (some ⟨vb, 0, none⟩) 1 1]).run Try.prog W1 = .ok (goInt (Nat.min 1 (n + 1 - i))) (W1.setCells nb (i * 3) (hc h)) := fun dc ty =>
    run_copy_heads W1 28 22 ty nb (i * 3) (n + 1 - i) dc ⟨vb, 0, none⟩ 1 1 (hc h) Try.underlying28 (by rw [hc_len]; simp only [Nat.min_def]; split <;> omega) (fun j u hu => by rw [Addr.add_lit, Nat.zero_add]; exact X1.cell j u hu)
      (fun j hj => Y1.isIn _ (by rw [hc_len] at hj; omega)) (fun j hj => Y1.frozen _) (fun u hu => csH_one [h] u (by simpa [csH] using hu))
  obtain ⟨W2, hW2⟩ : ∃ W2, W2 = W1.setCells nb (i * 3) (hc h) := ⟨_, rfl⟩
  rw [← hW2] at Y2 g2 hcp1
  have hgn : g ≠ nb := by have := hY.lt; omega
  have Z2 : Blk W2 g 25 (csH l ++ t) := Z1.block (g2.block g Z1.lt (fun e => hgn (Option.some.inj e)))
  have hl2 := spl_len ROW (i * 3) (hc h) (by rw [hc_len]; omega)
  obtain ⟨Y3, g3⟩ := Blk.setsX (csH (l.drop i)) (i * 3 + (hc h).length) W2.drew _ (show Blk W2.drew nb 25 _ from Y2) (by rw [hl2, hc_len]; omega)
  have hcp2 : ∀ dc sc ty, (Builtin.copy_ #[28, 28] ty #[.slice (some ⟨nb, (i + 1) * 3, none⟩) (n - i) dc, .slice (some ⟨g, i * 3, none⟩) (n - i) sc]).run Try.prog W2.drew = .ok (goInt (Nat.min (n - i) (n - i))) (W2.drew.setCells nb (i * 3 + (hc h).length) (csH (l.drop i))) := fun dc sc ty => by
    rw [hc_len, show (i + 1) * 3 = i * 3 + 3 by omega]
    refine run_copy_heads W2.drew 28 28 ty nb (i * 3 + 3) (n - i) dc ⟨g, i * 3, none⟩ (n - i) sc (csH (l.drop i)) Try.underlying28 (by rw [hD]; simp only [Nat.min_def]; split <;> omega) (fun j u hu => ?_)
      (fun j hj => Blk.isIn (show Blk W2.drew nb 25 _ from Y2) _ (by rw [hl2]; omega)) (fun j hj => Blk.frozen (show Blk W2.drew nb 25 _ from Y2) _) (csH_one _)
    rw [Addr.add_lit]
    refine Blk.cell (show Blk W2.drew g 25 (csH l ++ t) from Z2) _ u ?_
    have hj : j < (n - i) * 3 := by have := (List.getElem?_eq_some_iff.1 hu).1; omega
    rw [← csH_drop l i (by omega), List.getElem?_drop] at hu
    rw [List.getElem?_append_left (by omega)]
    exact hu
  obtain ⟨W3, hW3⟩ : ∃ W3, W3 = W2.drew.setCells nb (i * 3 + (hc h).length) (csH (l.drop i)) := ⟨_, rfl⟩
  rw [← hW3] at Y3 g3 hcp2
  have HF : Hid (OwnH B W3 (.slice (some ⟨nb, 0, none⟩) (n + 1) G) (l.take i ++ h :: l.drop i)) := by
    have e := mid_len l i h (by omega)
    have := blk_own (B := B) (g := nb) (cap := G) (mid_ok (i := i) hok hh) (by omega) Y3 (by
      rw [e, csH_mid]
      have := spl_up ROW (csH (l.take i)) (hc h) (csH (l.drop i)) (i * 3) hRt hT (by rw [hc_len]; omega)
      rw [← this, hD, hc_len]
      congr 1
      omega) (by omega) hGm (by rw [spl_len _ _ _ (by rw [hl2, hc_len]; omega), hl2]; exact hRl)
    rw [e, hn] at this
    exact this
  have HG : Hid (Below w.heap.size w W3) := bgrown (bgrown hb1 (by omega) g2).drew (by omega) g3
  have hG2 : G ≤ 9223372036854775807 := by unfold maxLen at hGm; omega
  have hz2 : ¬ ((i : Int) = (n : Int)) := by omega
  have hb2 : ¬ (G = i + 1) := by omega
  have hb3 : ¬ (G = i) := by omega
  have hb4 : ¬ (c = i) := by omega
  have hw1 : ((i : Int) + 1).toNat = i + 1 := by omega
  rw [← hnb] at hrz
  clear Y1 Y2 Y3 g2 g3 X1 Z1 Z2 hY hX hl2 hD hcs hT hold hRl hRt hb1 hW1 hW2 hW3 hROW hG hn hi0 hz0 hnb hgn
  go_enter Try.func34, Try.ntmps34
  go_upto_region 11 with (first
    | (at_builtin; go_must (refine wpList_append_at rfl (.tmp 34) (.tmp 39) 28 3 rfl (.slice (some ⟨g, 0, none⟩) i c) (.int .i64 ((n : Int) + 1 - (i : Int))) rfl rfl hrz ?_))
    | (refine wpList_copy_heads rfl (.tmp 43) (.tmp 44) 28 22 rfl (.slice (some ⟨nb, i * 3, none⟩) (n + 1 - i) (G - i)) (.slice (some ⟨vb, 0, none⟩) 1 1) rfl rfl (hcp1 _) ?_))
  go_simp
  have ne : Nonempty (WIn (fun _ => True)) := ⟨⟨w, trivial⟩⟩
  refine wp_region_ord (C := fun w' => ∃ z : WIn (fun _ => True), w' = z.w) [(false, 0), (false, 1), (false, 2), (false, 3), (false, 4), (false, 5), (false, 6), (false, 7), (true, 8)] (by kernel_rfl) (by kernel_rfl) ⟨⟨W2.drew, trivial⟩, rfl⟩ ?_
  iterate 8 (refine ord_still rfl rfl ?_; go_big_quiet_step (fail); refine wpQuiet_nil ?_)
  refine ord_mem rfl rfl ?_
  refine wp_of_list rfl ?_
  refine wpList_copy_heads rfl (.tmp 50) (.tmp 53) 28 28 rfl (.slice (some ⟨nb, (i + 1) * 3, none⟩) (n - i) (G - (i + 1))) (.slice (some ⟨g, i * 3, none⟩) (n - i) (c - i)) rfl rfl (hcp2 _ _) ?_
  refine ⟨rfl, ⟨⟨W3, trivial⟩, rfl⟩, ?_⟩
  refine ord_end ?_
  clear ne hcp1 hcp2 hrz
  go_wp2
  go_ret
  exact ⟨_, rfl, HF.out, HG.out⟩

/-- A head put between others, in a vector of the call's own. -/
theorem insert_any (v : Value) (l : List H) (i : Nat) (h : H) (vb B : Nat) (w : World) (hown : OwnH B w v l) (hX : Blk w vb 25 (hc h)) (hh : HOk h) (hi : i ≤ l.length) (hl : l.length ≤ 1000) (hB : B ≤ w.heap.size) (hne : v.ownBlock ≠ some vb) :
    Calls Try.prog 34 #[v, .int .i64 i, .slice (some ⟨vb, 0, none⟩) 1 1] w fun e w' => ∃ v', e = .returned v' ∧ OwnH B w' v' (l.take i ++ h :: l.drop i) ∧ w.grownBy w' v.ownBlock := by
  rcases Nat.lt_or_ge i l.length with hlt | hge
  · obtain ⟨g, cap, t, rfl, hBg, hY, h1, h2, h3⟩ := own_blk hown (by omega)
    by_cases hr : l.length + 1 ≤ cap
    · exact insert_room g l.length cap i vb B l t h w rfl hY hX hl hlt hr h2 h3 (fun e => hne (by rw [e]; rfl)) hBg hown.1 hh
    · refine (insert_grow g l.length cap i vb B l t h w rfl hY hX hl hlt h1 (by omega) hB hown.1 hh).mono ?_
      rintro e w' ⟨v', q1, q2, q3⟩
      exact ⟨v', q1, q2, ⟨q3.os, q3.tape, q3.output, q3.size, fun k hk _ => q3.block k hk⟩⟩
  · obtain rfl : i = l.length := by omega
    rw [List.take_length, List.drop_length]
    exact insert_end v l h vb B w hown hX hh hl hB
end Go.Proofs.Ytdjfedlkfekeoaa
