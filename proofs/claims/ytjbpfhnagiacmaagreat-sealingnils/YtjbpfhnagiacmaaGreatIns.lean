/-
  slices.Clone and slices.Insert at members.
-/
import Derived.Test.YtjbpfhnagiacmaaGreatRgt
import Derived.Laws.IdiomCopy
import Derived.Lib.SliceRun
import Derived.Lib.Overlaps
import Derived.Lib.AppendZerosOnto
import Derived.Laws.Externs
namespace Go.Proofs.YtjbpfhnagiacmaaGreat
set_option linter.unusedVariables false
set_option linter.unusedSimpArgs false
set_option synthInstance.maxSize 20000
set_option maxHeartbeats 2000000
set_option maxRecDepth 20000
open Go.RowKit Go.Maps
abbrev csH (l : List Mb) : List Value := flat mc l
abbrev hc (m : Mb) : List Value := mc m
def HOk (m : Mb) : Prop := True
def OwnH (B : Nat) (w : World) (v : Value) (l : List Mb) : Prop := (∀ s ∈ l, HOk s) ∧ w.ownsRow B 116 5 v l.length (csH l)
theorem csH_length (l : List Mb) : (csH l).length = l.length * 5 := flat_length mc_len l
theorem csH_append (a b : List Mb) : csH (a ++ b) = csH a ++ csH b := flat_append a b
theorem csH_cons (a : Mb) (b : List Mb) : csH (a :: b) = hc a ++ csH b := flat_cons a b
theorem csH_one (l : List Mb) : ∀ u ∈ csH l, u.oneCell' = true := flat_mc_one l
theorem OwnH.rd {B : Nat} {w : World} {v : Value} {l : List Mb} (h : OwnH B w v l) : RowF mc w v l := rowF_own mc_len h.2
theorem RowF.cap {α : Type} {f : α → List Value} {l : List α} {w : World} {a : Option Addr} {n cap : Nat} (h : RowF f w (.slice a n cap) l) : n = l.length ∧ n ≤ cap ∧ cap ≤ 9223372036854775807 := h.caps
theorem OwnH.lt {B : Nat} {w : World} {v : Value} {l : List Mb} (h : OwnH B w v l) (k : Nat) (hk : v.ownBlock = some k) : B ≤ k ∧ k < w.heap.size := h.2.lt k hk
theorem ownH_nil (B : Nat) (w : World) : OwnH B w (.slice none 0 0) [] := ⟨fun _ h => (by cases h), World.ownsRow_nil _ _ _ _⟩
theorem own_base {w : World} {B B' : Nat} {e : TypeId} {k : Nat} {v : Value} {n : Nat} {xs : List Value} (h : w.ownsRow B e k v n xs) (hb : ∀ j, v.ownBlock = some j → B' ≤ j) : w.ownsRow B' e k v n xs := by
  obtain ⟨h1, h2⟩ := h
  refine ⟨h1, ?_⟩
  rcases h2 with h2 | ⟨g, cap, cur, rfl, h3, h4⟩
  · exact .inl h2
  · exact .inr ⟨g, cap, cur, rfl, hb g rfl, h4⟩
theorem OwnH.low {B : Nat} {w : World} {v : Value} {l : List Mb} (h : OwnH B w v l) : w.ownsRow 0 116 5 v l.length (flat mc l) := own_base h.2 (fun _ _ => Nat.zero_le _)
theorem own_blkM {B : Nat} {w : World} {v : Value} {l : List Mb} (h : OwnH B w v l) (hp : 0 < l.length) :
    ∃ g cap t, v = .slice (some ⟨g, 0, none⟩) l.length cap ∧ B ≤ g ∧ Blk w g 116 (csH l ++ t) ∧ l.length ≤ cap ∧ cap ≤ maxLen ∧ (csH l ++ t).length = cap * 5 := by
  obtain ⟨ho, h1, h2⟩ := h
  rcases h2 with ⟨rfl, hn⟩ | ⟨g, cap, cur, rfl, hb, hg, hn, hc, hs, ht⟩
  · omega
  · have e : csH l ++ cur.toList.drop (l.length * 5) = cur.toList := by rw [← ht]; exact List.take_append_drop _ _
    refine ⟨g, cap, cur.toList.drop (l.length * 5), rfl, hb, ?_, hn, hc, ?_⟩
    · unfold Blk
      rw [e]
      simpa using hg
    · rw [e]
      simpa using hs
theorem blk_own {B : Nat} {w : World} {l : List Mb} {g cap : Nat} {vs : List Value} (ho : ∀ s ∈ l, HOk s) (hB : B ≤ g) (hb : Blk w g 116 vs) (ht : vs.take (l.length * 5) = csH l) (h1 : l.length ≤ cap) (h2 : cap ≤ maxLen) (h3 : vs.length = cap * 5) : OwnH B w (.slice (some ⟨g, 0, none⟩) l.length cap) l :=
  ⟨ho, csH_length l, .inr ⟨g, cap, vs.toArray, rfl, hB, hb, h1, h2, by simpa using h3, by simpa using ht⟩⟩
def spl (vs : List Value) (o : Nat) (us : List Value) : List Value := vs.take o ++ us ++ vs.drop (o + us.length)
theorem spl_len (vs : List Value) (o : Nat) (us : List Value) (h : o + us.length ≤ vs.length) : (spl vs o us).length = vs.length := by unfold spl; simp; omega
theorem spl_cons (vs : List Value) (o : Nat) (u : Value) (us : List Value) (h : o + 1 + us.length ≤ vs.length) : spl (vs.set o u) (o + 1) us = spl vs o (u :: us) := by
  unfold spl
  rw [List.length_cons, show o + (us.length + 1) = o + 1 + us.length by omega, List.drop_set, if_pos (by omega)]
  have e : (vs.set o u).take (o + 1) = vs.take o ++ [u] := by
    rw [List.take_succ_eq_append_getElem (by simp; omega), List.take_set_of_le (Nat.le_refl _)]
    simp
  rw [e]
  simp
theorem Blk.setsX {b : Nat} {e : TypeId} : ∀ (us : List Value) (o : Nat) (w : World) (vs : List Value), Blk w b e vs → o + us.length ≤ vs.length → Blk (w.setCells b o us) b e (spl vs o us) ∧ w.grownBy (w.setCells b o us) (some b)
  | [], o, w, vs, h, _ => ⟨by show Blk w b e _; unfold spl; simpa using h, grown_refl _ _⟩
  | u :: us, o, w, vs, h, hl => by
    simp only [List.length_cons] at hl
    obtain ⟨h1, h4⟩ := Blk.setsX us (o + 1) (w.setCell ⟨b, o, none⟩ u) (vs.set o u) (h.set o u) (by simp; omega)
    rw [spl_cons vs o u us (by omega)] at h1
    exact ⟨h1, grown_trans (grown_setCell w b o u) h4 (fun k hk => .inl hk)⟩
theorem Blk.cells {w : World} {b : Nat} {e : TypeId} {vs : List Value} (h : Blk w b e vs) (o : Nat) (us : List Value) (hs : ∀ j u, us[j]? = some u → vs[o + j]? = some u) : ∀ j u, us[j]? = some u → w.cell? ⟨b, o + j, none⟩ = some u := fun j u hu => h.cell _ _ (hs j u hu)
theorem Blk.isIn {w : World} {b : Nat} {e : TypeId} {vs : List Value} (h : Blk w b e vs) (j : Nat) (hj : j < vs.length) : (w.cell? ⟨b, j, none⟩).isSome = true := by
  rw [h.cell j _ (List.getElem?_eq_getElem hj)]
  rfl
theorem Blk.shape {w : World} {b : Nat} {e : TypeId} {vs : List Value} (h : Blk w b e vs) : w.shape? b = some (e, vs.length) := by
  unfold Blk at h
  simp [World.shape?, h]
theorem spl_up (R A V D : List Value) (p : Nat) (hA : R.take p = A) (hp : A.length = p) (hl : p + V.length + D.length ≤ R.length) : (spl (spl R p V) (p + V.length) D).take (p + V.length + D.length) = A ++ V ++ D := by
  have e1 : (spl R p V).take (p + V.length) = A ++ V := by
    unfold spl
    rw [hA, List.take_append_of_le_length (by simp; omega), List.take_of_length_le (by simp; omega)]
  have e2 : spl (spl R p V) (p + V.length) D = A ++ V ++ D ++ (spl R p V).drop (p + V.length + D.length) := by
    rw [show spl (spl R p V) (p + V.length) D = (spl R p V).take (p + V.length) ++ D ++ (spl R p V).drop (p + V.length + D.length) from rfl, e1]
  rw [e2, List.take_append_of_le_length (by simp; omega), List.take_of_length_le (by simp; omega)]
theorem spl_down (R A V D : List Value) (p : Nat) (hA : R.take p = A) (hp : A.length = p) (hl : p + V.length + D.length ≤ R.length) : (spl (spl R (p + V.length) D) p V).take (p + V.length + D.length) = A ++ V ++ D := by
  have e1 : (spl R (p + V.length) D).take p = A := by
    unfold spl
    rw [List.append_assoc, List.take_append_of_le_length (by simp; omega), List.take_take, Nat.min_eq_left (by omega), hA]
  have e3 : (spl R (p + V.length) D).drop (p + V.length) = D ++ R.drop (p + V.length + D.length) := by
    unfold spl
    rw [List.append_assoc, List.drop_append_of_le_length (by simp; omega), List.drop_of_length_le (by simp; omega)]
    rfl
  have e2 : spl (spl R (p + V.length) D) p V = A ++ V ++ D ++ R.drop (p + V.length + D.length) := by
    rw [show spl (spl R (p + V.length) D) p V = (spl R (p + V.length) D).take p ++ V ++ (spl R (p + V.length) D).drop (p + V.length) from rfl, e1, e3]
    simp
  rw [e2, List.take_append_of_le_length (by simp; omega), List.take_of_length_le (by simp; omega)]
theorem run_copy_heads (w : World) (dT sT ty : TypeId) (b o dLen dCap : Nat) (a : Addr) (sLen sCap : Nat) (cs : List Value)
    (hu : Tryz.prog.underlying dT = some (.slice 116)) (hn : cs.length = Nat.min sLen dLen * 5)
    (hsrc : ∀ j v, cs[j]? = some v → w.cell? (a.add j) = some v) (hc : ∀ j, j < cs.length → (w.cell? ⟨b, o + j, none⟩).isSome = true) (hf : ∀ j, j < cs.length → w.frozen? ⟨b, o + j, none⟩ = false) (h1 : ∀ v ∈ cs, v.oneCell' = true) :
    (Builtin.copy_ #[dT, sT] ty #[.slice (some ⟨b, o, none⟩) dLen dCap, .slice (some a) sLen sCap]).run Tryz.prog w = .ok (goInt (Nat.min sLen dLen)) (w.setCells b o cs) := by
  obtain ⟨i, hi, hz, hs1, hs2⟩ := info51
  have hfc := run_firstCells_some (P := Tryz.prog) w i.size (Nat.min sLen dLen) a sLen sCap cs (by rw [hs1]; exact hn) hsrc
  have hst := run_storeCells_cells (P := Tryz.prog) b o cs 0 w (by simpa using hc) (by simpa using hf) h1
  rw [Nat.add_zero] at hst
  simp [Builtin.copy_, run_underlying hu, Builtin.lenOf, sizeOf, typeInfo, hi, hfc, hst]
section
variable {w : World} {ops : Array Oper} {rest : List Oper} {o : Oper} {a : Act} {Q : Exit → Act → World → Prop}
theorem wpList_copy_heads (hgd : o.guard = none) (d s : Operand) (dT sT : TypeId)
    (ho : o.op = .call { callee := .builtin .copy, args := #[d, s], argTypes := #[dT, sT] }) (v u : Value) (hd : a.eval d = v) (hs : a.eval s = u) {v' : Value} {w' : World}
    (hr : ∀ ty, (Builtin.copy_ #[dT, sT] ty #[v, u]).run Tryz.prog w = .ok v' w') (h : wpList Tryz.prog ops Q rest (a.put o.dst v') w') : wpList Tryz.prog ops Q (o :: rest) a w := by
  refine wpList_plain hgd fun K hK => ?_
  unfold Oper.wp
  simp [execOp, ho, resolve, invoke, builtin, hd, hs, hr, Result.andThen]
  exact hK _ _ h
theorem wpList_append_at (hgd : o.guard = none) (d s : Operand) (dT sT : TypeId)
    (ho : o.op = .call { callee := .builtin .append, args := #[d, s], argTypes := #[dT, sT] }) (v u : Value) (hd : a.eval d = v) (hs : a.eval s = u) {v' : Value} {w' : World}
    (hr : ∀ ty, (Builtin.append_ #[dT, sT] ty #[v, u]).run Tryz.prog w = .ok v' w') (h : wpList Tryz.prog ops Q rest (a.put o.dst v') w') : wpList Tryz.prog ops Q (o :: rest) a w := by
  refine wpList_plain hgd fun K hK => ?_
  unfold Oper.wp
  simp [execOp, ho, resolve, invoke, builtin, hd, hs, hr, Result.andThen]
  exact hK _ _ h
end
theorem overlaps_any (w : World) (vb g o : Nat) (la ca lb cb : Nat) (us vs : List Value) (hX : Blk w vb 116 us) (hY : Blk w g 116 vs) (hne : vb ≠ g) (hl : 0 < vs.length) :
    (callFunc 123 #[.slice (some ⟨vb, 0, none⟩) la ca, .slice (some ⟨g, o, none⟩) lb cb]).run Tryz.prog w = .ok (.value (.bool false)) w := by
  obtain ⟨i, hi, hz, hs1, hs2⟩ := info51
  rw [run_callFunc_extern Tryz.func123 (by kernel_rfl) (by kernel_rfl) (by kernel_rfl) (e := Extern.SlicesOverlaps.overlaps #[65, 65] #[4]) (by kernel_rfl),
    Lib.run_overlaps_apart w 65 4 116 Tryz.underlying65 5 (fun w => by simp [sizeOf, typeInfo, hi, hs1]) ⟨vb, 0, none⟩ ⟨g, o, none⟩ la ca lb cb hne 116 116 us.length vs.length hX.shape hY.shape (by omega) (hX.frozen 0) (hX.frozen _)]
  rfl
theorem own_empty (w : World) : OwnH w.heap.size (w.alloc (.cells #[] 116)) (.slice (some ⟨w.heap.size, 0, none⟩) 0 0) [] := by
  have X := blk_new w [] 116
  exact blk_own (l := []) (cap := 0) (fun _ h => by cases h) (Nat.le_refl _) X rfl (Nat.le_refl _) (by unfold maxLen; omega) rfl
theorem clone32 (v : Value) (l : List Mb) (w : World) (hv0 : RowF mc w v l) (hl : l.length ≤ 10000) :
    Calls Tryz.prog 63 #[v] w fun e w' => ∃ v', e = .returned v' ∧ OwnH w.heap.size w' v' l ∧ Below w.heap.size w w' := by
  obtain ⟨a, cap, rfl, h1, h2, h3, h4⟩ := id hv0
  have HV : Hid (RowF mc w (.slice a l.length cap) l) := hv0
  clear hv0
  cases a with
  | none =>
    have hc := h3 rfl
    obtain rfl : l = [] := List.eq_nil_of_length_eq_zero (by omega)
    subst hc
    have hq := Lib.run_eql_slice_nil (P := Tryz.prog) w 65 116 none 0 0 0 0 Tryz.underlying65
    clear h1 h2 h3 h4
    go_enter Tryz.func63, Tryz.ntmps63
    go_wp2
    go_ret
    exact ⟨_, rfl, ownH_nil _ _, Below.refl _ _⟩
  | some ad =>
    have hq := Lib.run_eql_slice_nil (P := Tryz.prog) w 65 116 (some ad) l.length cap 0 0 Tryz.underlying65
    have HE : Hid ((w.alloc (.cells #[] 116)).ownsRow 0 116 5 (.slice (some ⟨w.heap.size, 0, none⟩) 0 0) ([] : List Mb).length (flat mc [])) := (own_empty w).low
    clear h1 h2 h3 h4
    go_enter Tryz.func63, Tryz.ntmps63
    go_wp2_with (at_builtin; go_must (refine wpList_append_rows ty26 mc_len (by omega) rfl (.tmp 5) (.tmp 6) rfl _ [] rfl HE.out _ l rfl (HV.out.below (balloc (Below.refl _ _) _)) (flat_mc_one _) (by simp; omega) ?_; intro v2 w2 hown2 hg2 hn2))
    go_ret
    rw [List.nil_append] at hown2
    refine ⟨_, rfl, ⟨fun _ _ => trivial, own_base hown2 (fun k hk => ?_)⟩, ?_⟩
    · rcases hn2 k hk with r | r
      · cases r; exact Nat.le_refl _
      · simp at r; omega
    · exact (balloc (Below.refl _ w) _).grown hg2 (by simp) (fun k hk => by cases hk; exact Nat.le_refl _)
theorem run_append_one (w : World) (B : Nat) (v : Value) (l : List Mb) (h : Mb) (vb : Nat) (hown : OwnH B w v l) (hX : Blk w vb 116 (hc h)) (hh : HOk h) (hl : l.length ≤ 1000) (hB : B ≤ w.heap.size) :
    ∃ v' w', (∀ ty, (Builtin.append_ #[65, 65] ty #[v, .slice (some ⟨vb, 0, none⟩) 1 1]).run Tryz.prog w = .ok v' w') ∧ OwnH B w' v' (l ++ [h]) ∧ w.grownBy w' v.ownBlock := by
  obtain ⟨i, hi, hz, hs1, hs2⟩ := info51
  obtain ⟨v', w', h1, h2, h3, _⟩ := run_append_own (P := Tryz.prog) w B 65 0 116 i (mv zm) 5 40 Tryz.underlying65 hi hz hs1 hs2 rfl (by decide) v l.length (csH l) hown.2 ⟨vb, 0, none⟩ 1 1 (hc h) rfl
    (fun j u hu => by rw [Addr.add_lit, Nat.zero_add]; exact hX.cell j u hu) (fun u hu => csH_one [h] u (by simpa [csH, flat] using hu)) (by unfold maxLen; omega) (by omega) hB
  obtain ⟨ad, c, rfl⟩ := hown.rd.len
  refine ⟨v', w', fun ty => ?_, ⟨fun s hs => ?_, ?_⟩, h3⟩
  · exact h1
  · rcases List.mem_append.1 hs with r | r
    · exact hown.1 s r
    · simp at r; rw [r]; exact hh
  · rw [csH_append, List.length_append]
    simpa [csH, flat] using h2
set_option maxHeartbeats 1000000 in
theorem insert_end (v : Value) (l : List Mb) (h : Mb) (vb B : Nat) (w : World) (hown : OwnH B w v l) (hX : Blk w vb 116 (hc h)) (hh : HOk h) (hl : l.length ≤ 1000) (hB : B ≤ w.heap.size) :
    Calls Tryz.prog 104 #[v, .int .i64 l.length, .slice (some ⟨vb, 0, none⟩) 1 1] w fun e w' => ∃ v', e = .returned v' ∧ OwnH B w' v' (l ++ [h]) ∧ w.grownBy w' v.ownBlock := by
  obtain ⟨v', w', hr, h1, h2⟩ := run_append_one w B v l h vb hown hX hh hl hB
  obtain ⟨ad, c, rfl⟩ := hown.rd.len
  have hcap := hown.rd.cap
  have H1 : Hid (OwnH B w' v' (l ++ [h])) := h1
  have H2 : Hid (w.grownBy w' (Value.slice ad l.length c).ownBlock) := h2
  clear h1 h2 hown hX
  by_cases hceq : c = l.length
  all_goals
    try subst hceq
    go_enter Tryz.func104, Tryz.ntmps104
    go_wp2_with (at_builtin; go_must (refine wpList_append_at rfl (.tmp 23) (.tmp 24) 65 65 rfl _ _ rfl rfl hr ?_))
    go_ret
    exact ⟨_, rfl, H1.out, H2.out⟩
theorem csH_take (l : List Mb) (i : Nat) (hi : i ≤ l.length) : (csH l).take (i * 5) = csH (l.take i) := by
  have e : csH l = csH (l.take i) ++ csH (l.drop i) := by rw [← csH_append, List.take_append_drop]
  rw [e, List.take_append_of_le_length (by rw [csH_length, List.length_take]; omega), List.take_of_length_le (by rw [csH_length, List.length_take]; omega)]
theorem csH_drop (l : List Mb) (i : Nat) (hi : i ≤ l.length) : (csH l).drop (i * 5) = csH (l.drop i) := by
  have e : csH l = csH (l.take i) ++ csH (l.drop i) := by rw [← csH_append, List.take_append_drop]
  rw [e, List.drop_append_of_le_length (by rw [csH_length, List.length_take]; omega), List.drop_of_length_le (by rw [csH_length, List.length_take]; omega)]
  rfl
theorem csH_mid (l : List Mb) (i : Nat) (h : Mb) : csH (l.take i ++ h :: l.drop i) = csH (l.take i) ++ hc h ++ csH (l.drop i) := by rw [csH_append, csH_cons, List.append_assoc]
theorem mid_len (l : List Mb) (i : Nat) (h : Mb) (hi : i ≤ l.length) : (l.take i ++ h :: l.drop i).length = l.length + 1 := by simp; omega
theorem mid_ok {l : List Mb} {i : Nat} {h : Mb} (hl : ∀ s ∈ l, HOk s) (hh : HOk h) : ∀ s ∈ l.take i ++ h :: l.drop i, HOk s := fun s hs => by
  rcases List.mem_append.1 hs with r | r
  · exact hl s (List.mem_of_mem_take r)
  · rcases List.mem_cons.1 r with r | r
    · rw [r]; exact hh
    · exact hl s (List.mem_of_mem_drop r)
theorem hc_len (h : Mb) : (hc h).length = 5 := rfl
set_option maxHeartbeats 4000000 in
set_option maxRecDepth 20000 in
theorem insert_room (g n c i vb B : Nat) (l : List Mb) (t : List Value) (h : Mb) (w : World) (hn : l.length = n) (hY : Blk w g 116 (csH l ++ t)) (hX : Blk w vb 116 (hc h)) (hl : n ≤ 1000) (hi : i < n) (hroom : n + 1 ≤ c) (hc63 : c ≤ maxLen) (hsz : (csH l ++ t).length = c * 5) (hne : vb ≠ g) (hB : B ≤ g) (hok : ∀ s ∈ l, HOk s) (hh : HOk h) :
    Calls Tryz.prog 104 #[.slice (some ⟨g, 0, none⟩) n c, .int .i64 i, .slice (some ⟨vb, 0, none⟩) 1 1] w fun e w' => ∃ v', e = .returned v' ∧ OwnH B w' v' (l.take i ++ h :: l.drop i) ∧ w.grownBy w' (some g) := by
  have hcs := csH_length l
  have hlt : (csH l ++ t).length = l.length * 5 + t.length := by rw [List.length_append, hcs]
  have hD : (csH (l.drop i)).length = (n - i) * 5 := by rw [csH_length, List.length_drop, hn]
  have hov := fun (W : World) (hW : W = w) lb cb => overlaps_any w vb g ((i + 1) * 5) 1 1 lb cb _ _ hX hY hne (by omega)
  have hc2 : c ≤ 9223372036854775807 := by unfold maxLen at hc63; omega
  have hdcell : ∀ j u, (csH (l.drop i))[j]? = some u → w.cell? ⟨g, i * 5 + j, none⟩ = some u := hY.cells (i * 5) _ (fun j u hu => by
    have hj : j < (n - i) * 5 := by have := (List.getElem?_eq_some_iff.1 hu).1; omega
    rw [← csH_drop l i (by omega), List.getElem?_drop] at hu
    rw [List.getElem?_append_left (by omega)]
    exact hu)
  obtain ⟨Y1, g1⟩ := Blk.setsX (csH (l.drop i)) ((i + 1) * 5) w.drew _ (show Blk w.drew g 116 (csH l ++ t) from hY) (by omega)
  obtain ⟨W1, hW1⟩ : ∃ W1, W1 = w.drew.setCells g ((i + 1) * 5) (csH (l.drop i)) := ⟨_, rfl⟩
  have hcp1 : ∀ dc sc ty, (Builtin.copy_ #[65, 65] ty #[.slice (some ⟨g, (i + 1) * 5, none⟩) (n - i) dc, .slice (some ⟨g, i * 5, none⟩) (n + 1 - i) sc]).run Tryz.prog w.drew = .ok (goInt (Nat.min (n + 1 - i) (n - i))) W1 := fun dc sc ty => by
    rw [hW1]
    refine run_copy_heads w.drew 65 65 ty g ((i + 1) * 5) (n - i) dc ⟨g, i * 5, none⟩ (n + 1 - i) sc (csH (l.drop i)) Tryz.underlying65 (by rw [hD]; simp only [Nat.min_def]; split <;> omega) (fun j u hu => by rw [Addr.add_lit]; exact hdcell j u hu)
      (fun j hj => Blk.isIn (show Blk w.drew g 116 (csH l ++ t) from hY) _ (by omega)) (fun j hj => Blk.frozen (show Blk w.drew g 116 (csH l ++ t) from hY) _) (csH_one _)
  rw [← hW1] at Y1 g1
  have X1 : Blk W1 vb 116 (hc h) := Blk.block hX (g1.block vb hX.lt (fun e => hne (Option.some.inj e)))
  have hl1 := spl_len (csH l ++ t) ((i + 1) * 5) (csH (l.drop i)) (by omega)
  obtain ⟨Y2, g2⟩ := Blk.setsX (hc h) (i * 5) W1 _ Y1 (by rw [hl1, hc_len]; omega)
  have hcp2 : ∀ dc ty, (Builtin.copy_ #[65, 65] ty #[.slice (some ⟨g, i * 5, none⟩) (n + 1 - i) dc, .slice (some ⟨vb, 0, none⟩) 1 1]).run Tryz.prog W1 = .ok (goInt (Nat.min 1 (n + 1 - i))) (W1.setCells g (i * 5) (hc h)) := fun dc ty =>
    run_copy_heads W1 65 65 ty g (i * 5) (n + 1 - i) dc ⟨vb, 0, none⟩ 1 1 (hc h) Tryz.underlying65 (by rw [hc_len]; simp only [Nat.min_def]; split <;> omega) (fun j u hu => by rw [Addr.add_lit, Nat.zero_add]; exact X1.cell j u hu)
      (fun j hj => Y1.isIn _ (by rw [hl1]; rw [hc_len] at hj; omega)) (fun j hj => Y1.frozen _) (fun u hu => csH_one [h] u (by simpa [csH, flat] using hu))
  have HF : Hid (OwnH B (W1.setCells g (i * 5) (hc h)) (.slice (some ⟨g, 0, none⟩) (n + 1) c) (l.take i ++ h :: l.drop i)) := by
    have e := mid_len l i h (by omega)
    have := blk_own (B := B) (g := g) (cap := c) (mid_ok (i := i) hok hh) hB Y2 (by
      rw [e, csH_mid]
      have := spl_down (csH l ++ t) (csH (l.take i)) (hc h) (csH (l.drop i)) (i * 5) (by rw [List.take_append_of_le_length (by omega)]; exact csH_take l i (by omega)) (by rw [csH_length, List.length_take]; omega) (by rw [hc_len]; omega)
      rw [hc_len, hD] at this
      rw [show (l.length + 1) * 5 = i * 5 + 5 + (n - i) * 5 by omega, ← this, show (i + 1) * 5 = i * 5 + 5 by omega]) (by omega) hc63 (by rw [spl_len _ _ _ (by rw [hl1, hc_len]; omega), hl1]; exact hsz)
    rw [e, hn] at this
    exact this
  have HG : Hid (w.grownBy (W1.setCells g (i * 5) (hc h)) (some g)) := grown_trans (w1 := W1) (show w.grownBy W1 (some g) from ⟨g1.os, g1.tape, g1.output, g1.size, g1.block⟩) g2 (fun k hk => .inl hk)
  have hz2 : ¬ ((i : Int) = (n : Int)) := by omega
  have hb2 : ¬ (c = i + 1) := by omega
  have hb4 : ¬ (c = i) := by omega
  have hw1 : ((i : Int) + 1).toNat = i + 1 := by omega
  have hov1 := hov w rfl
  clear hov Y1 Y2 g1 g2 X1 hY hX hdcell hl1 hD hcs hlt hsz hn hW1
  go_enter Tryz.func104, Tryz.ntmps104
  go_upto_region 15 with (simp only [hov1])
  have ne : Nonempty (WIn (fun _ => True)) := ⟨⟨w, trivial⟩⟩
  refine wp_region_ord (C := fun w' => ∃ z : WIn (fun _ => True), w' = z.w) [(false, 0), (false, 1), (false, 2), (false, 3), (false, 4), (false, 5), (false, 6), (false, 7), (true, 8)] (by kernel_rfl) (by kernel_rfl) ⟨⟨w.drew, trivial⟩, rfl⟩ ?_
  iterate 8 (refine ord_still rfl rfl ?_; go_big_quiet_step (fail); refine wpQuiet_nil ?_)
  refine ord_mem rfl rfl ?_
  refine wp_of_list rfl ?_
  refine wpList_copy_heads rfl (.tmp 73) (.tmp 76) 65 65 rfl (.slice (some ⟨g, (i + 1) * 5, none⟩) (n - i) (c - (i + 1))) (.slice (some ⟨g, i * 5, none⟩) (n + 1 - i) (c - i)) rfl rfl (hcp1 _ _) ?_
  refine ⟨rfl, ⟨⟨W1, trivial⟩, rfl⟩, ?_⟩
  refine ord_end ?_
  clear ne hcp1 hov1
  go_wp2_with (refine wpList_copy_heads rfl (.tmp 80) (.tmp 81) 65 65 rfl (.slice (some ⟨g, i * 5, none⟩) (n + 1 - i) (c - i)) (.slice (some ⟨vb, 0, none⟩) 1 1) rfl rfl (hcp2 _) ?_)
  go_ret
  exact ⟨_, rfl, HF.out, HG.out⟩
theorem zero_len (n : Nat) : (Builtin.zeroCells (mv zm).cells n).toList.length = n * 5 := by simp [Builtin.zeroCells, Value.cells, mv]
set_option maxHeartbeats 4000000 in
set_option maxRecDepth 20000 in
theorem insert_grow (g n c i vb B : Nat) (l : List Mb) (t : List Value) (h : Mb) (w : World) (hn : l.length = n) (hY : Blk w g 116 (csH l ++ t)) (hX : Blk w vb 116 (hc h)) (hl : n ≤ 1000) (hi : i < n) (hnc : n ≤ c) (hroom : c < n + 1) (hB : B ≤ w.heap.size) (hok : ∀ s ∈ l, HOk s) (hh : HOk h) :
    Calls Tryz.prog 104 #[.slice (some ⟨g, 0, none⟩) n c, .int .i64 i, .slice (some ⟨vb, 0, none⟩) 1 1] w fun e w' => ∃ v', e = .returned v' ∧ OwnH B w' v' (l.take i ++ h :: l.drop i) ∧ Below w.heap.size w w' := by
  obtain ⟨i0, hi0, hz0, hs1, hs2⟩ := info51
  have hcs := csH_length l
  have hD : (csH (l.drop i)).length = (n - i) * 5 := by rw [csH_length, List.length_drop, hn]
  have hT : (csH (l.take i)).length = i * 5 := by rw [csH_length, List.length_take]; omega
  have hold : (Builtin.firstCells i0.size i (.slice (some ⟨g, 0, none⟩) i c)).run Tryz.prog w.drew = .ok (csH (l.take i)).toArray w.drew := by
    rw [hs1]
    exact run_firstCells_some w.drew 5 i ⟨g, 0, none⟩ i c (csH (l.take i)) hT (fun j v hj => by
      rw [Addr.add_lit, Nat.zero_add]
      refine hY.cell j v ?_
      have hjl : j < i * 5 := by have := (List.getElem?_eq_some_iff.1 hj).1; omega
      rw [← csH_take l i (by omega), List.getElem?_take, if_pos hjl] at hj
      rw [List.getElem?_append_left (by omega)]
      exact hj)
  obtain ⟨G, hG⟩ : ∃ G, G = grownCap w (n + 1) c 116 := ⟨_, rfl⟩
  obtain ⟨ROW, hROW⟩ : ∃ ROW : List Value, ROW = csH (l.take i) ++ (Builtin.zeroCells (mv zm).cells (n + 1 - i)).toList ++ (Builtin.zeroCells (mv zm).cells (G - (n + 1))).toList := ⟨_, rfl⟩
  obtain ⟨W1, hW1⟩ : ∃ W1, W1 = w.drew.alloc (.cells ROW.toArray 116) := ⟨_, rfl⟩
  have hGn : n + 1 ≤ G := by rw [hG]; exact grownCap_ge w _ _ _
  have hGm : G ≤ maxLen := by rw [hG]; exact grownCap_le_maxLen w (n + 1) c 116 (by unfold maxLen; omega)
  have hrz : ∀ ty, (Builtin.append_ #[65, 3] ty #[.slice (some ⟨g, 0, none⟩) i c, .int .i64 ((n : Int) + 1 - (i : Int))]).run Tryz.prog w = .ok (.slice (some ⟨w.heap.size, 0, none⟩) (n + 1) G) W1 := fun ty => by
    have q := Lib.run_append_grow_zeros w 65 3 ty 116 i0 _ .i64 .i64 Tryz.underlying65 Tryz.underlying3 hi0 hz0 (some ⟨g, 0, none⟩) i c (csH (l.take i)) hold (n + 1 - i) (by omega) (by omega) (by omega) (by omega) (by rw [hs2]; omega) (by rw [hs2]; exact growslice_fits (by omega) (by omega))
    rw [show i + (n + 1 - i) = n + 1 by omega, ← hG] at q
    rw [show (n : Int) + 1 - (i : Int) = ((n + 1 - i : Nat) : Int) by omega, q, hW1]
    congr 3
    rw [hROW]
    apply Array.ext'
    simp
  have hRl : ROW.length = G * 5 := by rw [hROW, List.length_append, List.length_append, hT, zero_len, zero_len]; omega
  have hRt : ROW.take (i * 5) = csH (l.take i) := by rw [hROW, List.append_assoc, List.take_append_of_le_length (by omega), List.take_of_length_le (by omega)]
  obtain ⟨nb, hnb⟩ : ∃ nb, nb = w.heap.size := ⟨_, rfl⟩
  have Y1 : Blk W1 nb 116 ROW := by rw [hW1, hnb]; exact blk_new w.drew ROW 116
  have hb1 : Below w.heap.size w W1 := by rw [hW1]; exact balloc (Below.refl _ w).drew _
  have X1 := hX.below hb1
  have Z1 := hY.below hb1
  obtain ⟨Y2, g2⟩ := Blk.setsX (hc h) (i * 5) W1 _ Y1 (by rw [hc_len]; omega)
  have hcp1 : ∀ dc ty, (Builtin.copy_ #[65, 65] ty #[.slice (some ⟨nb, i * 5, none⟩) (n + 1 - i) dc, .slice (some ⟨vb, 0, none⟩) 1 1]).run Tryz.prog W1 = .ok (goInt (Nat.min 1 (n + 1 - i))) (W1.setCells nb (i * 5) (hc h)) := fun dc ty =>
    run_copy_heads W1 65 65 ty nb (i * 5) (n + 1 - i) dc ⟨vb, 0, none⟩ 1 1 (hc h) Tryz.underlying65 (by rw [hc_len]; simp only [Nat.min_def]; split <;> omega) (fun j u hu => by rw [Addr.add_lit, Nat.zero_add]; exact X1.cell j u hu)
      (fun j hj => Y1.isIn _ (by rw [hc_len] at hj; omega)) (fun j hj => Y1.frozen _) (fun u hu => csH_one [h] u (by simpa [csH, flat] using hu))
  obtain ⟨W2, hW2⟩ : ∃ W2, W2 = W1.setCells nb (i * 5) (hc h) := ⟨_, rfl⟩
  rw [← hW2] at Y2 g2 hcp1
  have hgn : g ≠ nb := by have := hY.lt; omega
  have Z2 : Blk W2 g 116 (csH l ++ t) := Z1.block (g2.block g Z1.lt (fun e => hgn (Option.some.inj e)))
  have hl2 := spl_len ROW (i * 5) (hc h) (by rw [hc_len]; omega)
  obtain ⟨Y3, g3⟩ := Blk.setsX (csH (l.drop i)) (i * 5 + (hc h).length) W2.drew _ (show Blk W2.drew nb 116 _ from Y2) (by rw [hl2, hc_len]; omega)
  have hcp2 : ∀ dc sc ty, (Builtin.copy_ #[65, 65] ty #[.slice (some ⟨nb, (i + 1) * 5, none⟩) (n - i) dc, .slice (some ⟨g, i * 5, none⟩) (n - i) sc]).run Tryz.prog W2.drew = .ok (goInt (Nat.min (n - i) (n - i))) (W2.drew.setCells nb (i * 5 + (hc h).length) (csH (l.drop i))) := fun dc sc ty => by
    rw [hc_len, show (i + 1) * 5 = i * 5 + 5 by omega]
    refine run_copy_heads W2.drew 65 65 ty nb (i * 5 + 5) (n - i) dc ⟨g, i * 5, none⟩ (n - i) sc (csH (l.drop i)) Tryz.underlying65 (by rw [hD]; simp only [Nat.min_def]; split <;> omega) (fun j u hu => ?_)
      (fun j hj => Blk.isIn (show Blk W2.drew nb 116 _ from Y2) _ (by rw [hl2]; omega)) (fun j hj => Blk.frozen (show Blk W2.drew nb 116 _ from Y2) _) (csH_one _)
    rw [Addr.add_lit]
    refine Blk.cell (show Blk W2.drew g 116 (csH l ++ t) from Z2) _ u ?_
    have hj : j < (n - i) * 5 := by have := (List.getElem?_eq_some_iff.1 hu).1; omega
    rw [← csH_drop l i (by omega), List.getElem?_drop] at hu
    rw [List.getElem?_append_left (by omega)]
    exact hu
  obtain ⟨W3, hW3⟩ : ∃ W3, W3 = W2.drew.setCells nb (i * 5 + (hc h).length) (csH (l.drop i)) := ⟨_, rfl⟩
  rw [← hW3] at Y3 g3 hcp2
  have HF : Hid (OwnH B W3 (.slice (some ⟨nb, 0, none⟩) (n + 1) G) (l.take i ++ h :: l.drop i)) := by
    have e := mid_len l i h (by omega)
    have := blk_own (B := B) (g := nb) (cap := G) (mid_ok (i := i) hok hh) (by omega) Y3 (by
      rw [e, csH_mid]
      have := spl_up ROW (csH (l.take i)) (hc h) (csH (l.drop i)) (i * 5) hRt hT (by rw [hc_len]; omega)
      rw [← this, hD, hc_len]
      congr 1
      omega) (by omega) hGm (by rw [spl_len _ _ _ (by rw [hl2, hc_len]; omega), hl2]; exact hRl)
    rw [e, hn] at this
    exact this
  have HG : Hid (Below w.heap.size w W3) := bgrown (bgrown hb1 (by omega) g2).drew (by omega) g3
  have hG2 : G ≤ 9223372036854775807 := by unfold maxLen at hGm; omega
  have hz2 : ¬ ((i : Int) = (n : Int)) := by omega
  have hb2 : ¬ (G = i + 1) := by omega
  have hb3 : ¬ (G = i) := by omega
  have hb4 : ¬ (c = i) := by omega
  have hw1 : ((i : Int) + 1).toNat = i + 1 := by omega
  rw [← hnb] at hrz
  clear Y1 Y2 Y3 g2 g3 X1 Z1 Z2 hY hX hl2 hD hcs hT hold hRl hRt hb1 hW1 hW2 hW3 hROW hG hn hi0 hz0 hnb hgn
  go_enter Tryz.func104, Tryz.ntmps104
  go_upto_region 11 with (first
    | (at_builtin; go_must (refine wpList_append_at rfl (.tmp 34) (.tmp 39) 65 3 rfl (.slice (some ⟨g, 0, none⟩) i c) (.int .i64 ((n : Int) + 1 - (i : Int))) rfl rfl hrz ?_))
    | (refine wpList_copy_heads rfl (.tmp 43) (.tmp 44) 65 65 rfl (.slice (some ⟨nb, i * 5, none⟩) (n + 1 - i) (G - i)) (.slice (some ⟨vb, 0, none⟩) 1 1) rfl rfl (hcp1 _) ?_))
  go_simp
  have ne : Nonempty (WIn (fun _ => True)) := ⟨⟨w, trivial⟩⟩
  refine wp_region_ord (C := fun w' => ∃ z : WIn (fun _ => True), w' = z.w) [(false, 0), (false, 1), (false, 2), (false, 3), (false, 4), (false, 5), (false, 6), (false, 7), (true, 8)] (by kernel_rfl) (by kernel_rfl) ⟨⟨W2.drew, trivial⟩, rfl⟩ ?_
  iterate 8 (refine ord_still rfl rfl ?_; go_big_quiet_step (fail); refine wpQuiet_nil ?_)
  refine ord_mem rfl rfl ?_
  refine wp_of_list rfl ?_
  refine wpList_copy_heads rfl (.tmp 50) (.tmp 53) 65 65 rfl (.slice (some ⟨nb, (i + 1) * 5, none⟩) (n - i) (G - (i + 1))) (.slice (some ⟨g, i * 5, none⟩) (n - i) (c - i)) rfl rfl (hcp2 _ _) ?_
  refine ⟨rfl, ⟨⟨W3, trivial⟩, rfl⟩, ?_⟩
  refine ord_end ?_
  clear ne hcp1 hcp2 hrz
  go_wp2
  go_ret
  exact ⟨_, rfl, HF.out, HG.out⟩
theorem insert_any (v : Value) (l : List Mb) (i : Nat) (h : Mb) (vb B : Nat) (w : World) (hown : OwnH B w v l) (hX : Blk w vb 116 (hc h)) (hh : HOk h) (hi : i ≤ l.length) (hl : l.length ≤ 1000) (hB : B ≤ w.heap.size) (hne : v.ownBlock ≠ some vb) :
    Calls Tryz.prog 104 #[v, .int .i64 i, .slice (some ⟨vb, 0, none⟩) 1 1] w fun e w' => ∃ v', e = .returned v' ∧ OwnH B w' v' (l.take i ++ h :: l.drop i) ∧ w.grownBy w' v.ownBlock := by
  rcases Nat.lt_or_ge i l.length with hlt | hge
  · obtain ⟨g, cap, t, rfl, hBg, hY, h1, h2, h3⟩ := own_blkM hown (by omega)
    by_cases hr : l.length + 1 ≤ cap
    · exact insert_room g l.length cap i vb B l t h w rfl hY hX hl hlt hr h2 h3 (fun e => hne (by rw [e]; rfl)) hBg hown.1 hh
    · refine (insert_grow g l.length cap i vb B l t h w rfl hY hX hl hlt h1 (by omega) hB hown.1 hh).mono ?_
      rintro e w' ⟨v', q1, q2, q3⟩
      exact ⟨v', q1, q2, ⟨q3.os, q3.tape, q3.output, q3.size, fun k hk _ => q3.block k hk⟩⟩
  · obtain rfl : i = l.length := by omega
    rw [List.take_length, List.drop_length]
    exact insert_end v l h vb B w hown hX hh hl hB
end Go.Proofs.YtjbpfhnagiacmaaGreat
