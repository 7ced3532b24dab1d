/-
  container/heap over a queue: Push, Pop, Remove.
-/
import Derived.Test.YtigfklcclfpcjaaHeapD
namespace Go.Proofs.Ytigfklcclfpcjaa
set_option linter.unusedVariables false
set_option linter.unusedSimpArgs false
set_option synthInstance.maxSize 20000
set_option maxHeartbeats 2000000
set_option maxRecDepth 20000
open Go.RowKit Go.Maps

/-- The entries ls, as a heap. -/
structure Heaped (ls qs : List (Ent × Value)) : Prop where
  perm : qs.Perm ls
  heap : HeapF ltQ (fn zq qs) qs.length
/-- The entries ls but q, as a heap. -/
structure HeapedBut (ls : List (Ent × Value)) (q : Ent × Value) (qs : List (Ent × Value)) : Prop where
  perm : (qs ++ [q]).Perm ls
  heap : HeapF ltQ (fn zq qs) qs.length

theorem fn_append {ps qs : List (Ent × Value)} {k : Nat} (h : k < ps.length) : fn zq (ps ++ qs) k = fn zq ps k := by
  unfold fn
  rw [List.getD_eq_getElem?_getD, List.getD_eq_getElem?_getD, List.getElem?_append_left h]
theorem split_last {qs : List (Ent × Value)} {n : Nat} (hl : qs.length = n + 1) : qs = qs.take n ++ [fn zq qs n] := by
  have h1 := at_fn zq (l := qs) (k := n) (by omega)
  have h2 := List.take_add_one (l := qs) (i := n)
  rw [h1] at h2
  rw [← hl, List.take_length] at h2
  simpa using h2
theorem heap_take {qs : List (Ent × Value)} {n : Nat} (h : HeapF ltQ (fn zq qs) n) (hn : n ≤ qs.length) : HeapF ltQ (fn zq (qs.take n)) (qs.take n).length := by
  have e : (qs.take n).length = n := by rw [List.length_take]; omega
  rw [e]
  refine h.same (fun k hk => ?_)
  unfold fn
  rw [List.getD_eq_getElem?_getD, List.getD_eq_getElem?_getD, List.getElem?_take_of_lt hk]
theorem but_of {ps qs : List (Ent × Value)} {n : Nat} {q : Ent × Value} (hp : qs.Perm ps) (hl : ps.length = n + 1) (hh : HeapF ltQ (fn zq qs) n) (hq : fn zq qs n = q) : ∃ rs, qs = rs ++ [q] ∧ HeapedBut ps q rs := by
  have hl' : qs.length = n + 1 := by rw [hp.length_eq, hl]
  have e := split_last hl'
  rw [hq] at e
  refine ⟨qs.take n, e, ?_, heap_take hh (by omega)⟩
  rw [← e]
  exact hp

theorem hpush_any {w : World} {o : Nat → Nat} {j b : Nat} {T : TypeId} {pre : List Value} {v : Value} {ps : List (Ent × Value)} {e : Ent} {x : Value} (h : QAt w o j b T pre v ps) (hj0 : j ≠ 0) (he : EOk e) (hx : Kp0 w o x e.b) (hfew : ps.length ≤ 900) (hH : HeapF ltQ (fn zq ps) ps.length) :
    Calls Try.prog 45 #[hp b pre.length, .iface 38 (ev e x)] w fun r w' => r = .returned (.tuple #[]) ∧ QMoved w o w' j b T pre (Heaped (ps ++ [(e, x)])) := by
  have PU := push_any h hj0 he hx (by omega)
  have UP := fun (w1 : World) (o1 : Nat → Nat) (v1 : Value) (h1 : QAt w1 o1 j b T pre v1 (ps ++ [(e, x)])) => up_any h1 hj0 ps.length (ps.length + 1) (by simp) (by omega) ((hH.same (fun k hk => fn_append hk)).more) (by simp; omega)
  obtain ⟨N, hN⟩ : ∃ N, N = ps.length + 1 := ⟨_, rfl⟩
  have HN : Hid ((ps ++ [(e, x)]).length = N) := (show _ = _ from by rw [hN]; simp)
  have e1 : (N : Int) - 1 = (ps.length : Int) := by omega
  have hNs : N ≤ 2000 := by omega
  have hm : (method 207 72 (.pointer (some ⟨b, pre.length, none⟩)) "Push").run Try.prog w = .ok (78, .pointer (some ⟨b, pre.length, none⟩)) w := m_push 206 b _ w
  rw [← hN] at UP
  have HPU : Hid (Calls _ _ _ _ _) := PU
  have HUP : Hid (∀ (w1 : World) (o1 : Nat → Nat) (v1 : Value), QAt w1 o1 j b T pre v1 (ps ++ [(e, x)]) → Calls Try.prog 54 #[hp b pre.length, .int .i64 (ps.length : Int)] w1 fun r w' => r = .returned (.tuple #[]) ∧ QMoved w1 o1 w' j b T pre (UpE (ps ++ [(e, x)]) N)) := UP
  have HC : Hid (∀ (w1 : World) (o1 : Nat → Nat) (v1 : Value), QAt w1 o1 j b T pre v1 (ps ++ [(e, x)]) → w1.cell? ⟨b, pre.length, none⟩ = some v1) := fun w1 o1 v1 h1 => h1.cell
  clear PU UP h hx he hH hN
  generalize ev e x = xv at *
  generalize pre.length = off at *
  go_enter Try.func45, Try.ntmps45
  go_wp2_with (first
    | (go_at_call 78; go_must (refine HPU.out.mono ?_; rintro r w1 ⟨rfl, o1, hq1, hM1⟩; obtain ⟨v1, hQ1⟩ := hq1; have HQ1 : Hid (QAt w1 o1 j b T pre v1 (ps ++ [(e, x)])) := hQ1; have HM1 : Hid (Mv [j] w o w1 o1) := hM1; have hv1 := slice_of_own hQ1.row; rw [HN.out] at hv1; obtain ⟨a1, c1, hv1, _⟩ := hv1; subst hv1; have hm1 : (method 207 72 (.pointer (some ⟨b, off, none⟩)) "Len").run Try.prog w1 = .ok (27, .slice a1 N c1) w1 := m_len 206 b off w1 _ (HC.out _ _ _ hQ1); clear hQ1 hM1 hm))
    | (go_at_call 27; go_must (refine (len_any _ _ _ _).mono ?_; rintro r w2 ⟨rfl, hw2⟩; replace hw2 := hw2.symm; subst hw2))
    | (go_at_call 54; go_must (refine (HUP.out w1 o1 _ HQ1.out).mono ?_; rintro r w3 ⟨rfl, hq3⟩)))
  obtain ⟨o3, qs, hQ3, hM3, hU⟩ := hq3
  refine bodyPost_end (results_none rfl _ _ _) rfl ⟨rfl, o3, qs, hQ3, HM1.out.trans hM3, hU.perm, ?_⟩
  rw [hU.perm.length_eq, HN.out]
  exact hU.heap

theorem hpop_any {w : World} {o : Nat → Nat} {j b : Nat} {T : TypeId} {pre : List Value} {v : Value} {ps : List (Ent × Value)} {q : Ent × Value} (h : QAt w o j b T pre v ps) (hj0 : j ≠ 0) (hq : ps[0]? = some q) (hfew : ps.length ≤ 900) (hH : HeapF ltQ (fn zq ps) ps.length) :
    Calls Try.prog 51 #[hp b pre.length] w fun r w' => r = .returned (.iface 38 (ev q.1 q.2)) ∧ QMoved w o w' j b T pre (HeapedBut ps q) := by
  have hpos : 0 < ps.length := (List.getElem?_eq_some_iff.1 hq).1
  obtain ⟨n, hn⟩ : ∃ n, ps.length = n + 1 := ⟨ps.length - 1, by omega⟩
  have SW : Calls Try.prog 75 #[v, .int .i64 0, .int .i64 (n : Int)] w fun r w' => r = .returned (.tuple #[]) ∧ w'.ownsRow 0 38 8 v ps.length (flatE (swapL zq ps 0 n)) ∧ w.grownBy w' v.ownBlock := swap_any h.row h.slices (i := 0) (j := n) (by omega) (by omega)
  have hf : fn zq (swapL zq ps 0 n) = sw (fn zq ps) 0 n := fn_swapL zq (by omega) (by omega)
  have hole : HoleF ltQ (fn zq (swapL zq ps 0 n)) n 0 0 := by
    rw [hf]
    by_cases hz : n = 0
    · subst hz
      exact ⟨fun k h0 hk => by omega, fun h0 => by omega⟩
    · rw [hn] at hH
      exact hH.hole ltQ_ahead (by omega)
  have TU := fun (w1 : World) hr hg => h.turned (w' := w1) hj0 (swapL_length zq ps 0 n) (mem_swapL (by omega) (by omega)) hr hg
  have DN : ∀ (w1 : World) (o1 : Nat → Nat), QAt w1 o1 j b T pre v (swapL zq ps 0 n) → Calls Try.prog 55 #[hp b pre.length, .int .i64 0, .int .i64 (n : Int)] w1 fun r w' => ∃ c, r = .returned (.bool c) ∧ QMoved w1 o1 w' j b T pre (DownE (swapL zq ps 0 n) n 0 c) := fun w1 o1 h1 => down_any h1 hj0 0 n (by rw [swapL_length]; omega) (by omega) (by rw [swapL_length]; omega) hole (by rw [swapL_length]; omega)
  have FIN : ∀ c qs, DownE (swapL zq ps 0 n) n 0 c qs → ∃ rs, qs = rs ++ [q] ∧ HeapedBut ps q rs := fun c qs hd => by
    refine but_of (hd.perm.trans (swapL_perm zq (by omega) (by omega))) hn ?_ ?_
    · cases c
      · exact up_stop (hd.no rfl) (.inl rfl)
      · exact hd.yes rfl
    · rw [hd.rest n (Nat.le_refl _), hf, sw_snd]
      exact fn_some hq
  obtain ⟨a1, c1, hv1, hc1⟩ := slice_of_own h.row
  rw [hn] at hv1
  obtain ⟨N, hN⟩ : ∃ N, N = n + 1 := ⟨_, rfl⟩
  rw [← hN] at hv1
  have e1 : (N : Int) - 1 = (n : Int) := by omega
  have hNs : N ≤ 1000 := by omega
  have hm : (method 207 72 (.pointer (some ⟨b, pre.length, none⟩)) "Len").run Try.prog w = .ok (27, v) w := m_len 206 b _ w v h.cell
  have hm2 : (method 207 72 (.pointer (some ⟨b, pre.length, none⟩)) "Swap").run Try.prog w = .ok (75, v) w := m_swap 206 b _ w v h.cell
  have POP := fun (w2 : World) (o2 : Nat → Nat) (v2 : Value) (rs : List (Ent × Value)) (h2 : QAt w2 o2 j b T pre v2 (rs ++ [q])) => pop_any h2 hj0
  have MP := fun (w2 : World) => m_pop 206 b pre.length w2
  subst hv1
  have HSW : Hid (Calls _ _ _ _ _) := SW
  have HTU : Hid (_) := TU
  have HDN : Hid (_) := DN
  have HFIN : Hid (_) := FIN
  have HPOP : Hid (_) := POP
  have HMP : Hid (_) := MP
  clear SW TU DN FIN POP MP h hf hole hn hN hc1
  generalize ev q.1 q.2 = qv at *
  generalize pre.length = off at *
  have tk : Hid True := trivial
  go_enter Try.func51, Try.ntmps51
  go_wp2_with (first
    | (go_at_call 27; go_must (refine (len_any _ _ _ _).mono ?_; rintro r w1 ⟨rfl, hw1⟩; replace hw1 := hw1.symm; subst hw1))
    | (go_at_call 75; go_must (refine HSW.out.mono ?_; rintro r w1 ⟨rfl, hr1, hg1⟩; have H1 := HTU.out w1 hr1 hg1; have HQ1 : Hid (QAt w1 (newTo o w 0) j b T pre (.slice a1 N c1) (swapL zq ps 0 n)) := H1.1; have HM1 : Hid (Mv [j] w o w1 (newTo o w 0)) := H1.2; clear H1 hr1 hg1 hm hm2))
    | (go_at_call 55; go_must (refine (HDN.out w1 _ HQ1.out).mono ?_; rintro r w2 ⟨c, rfl, o2, qs2, hq2, hM2, hD2⟩; obtain ⟨rs, hrs, hB⟩ := HFIN.out c qs2 hD2; subst hrs; obtain ⟨v2, hQ2⟩ := hq2; have HQ2 : Hid (QAt w2 o2 j b T pre v2 (rs ++ [q])) := hQ2; have HM2 : Hid (Mv [j] w1 (newTo o w 0) w2 o2) := hM2; have HB : Hid (HeapedBut ps q rs) := hB; have hmp : (method 207 72 (.pointer (some ⟨b, off, none⟩)) "Pop").run Try.prog w2 = .ok (77, .pointer (some ⟨b, off, none⟩)) w2 := HMP.out w2; clear hQ2 hM2 hB hD2))
    | (go_at_call 77; go_must (refine (HPOP.out w2 o2 v2 rs HQ2.out).mono ?_; rintro r w3 ⟨rfl, o3, hq3, hM3⟩)))
  go_ret
  exact ⟨rfl, o3, rs, hq3, (HM1.out.trans HM2.out).trans hM3, HB.out⟩

theorem hremove_any {w : World} {o : Nat → Nat} {j b : Nat} {T : TypeId} {pre : List Value} {v : Value} {ps : List (Ent × Value)} {q : Ent × Value} {i : Nat} (h : QAt w o j b T pre v ps) (hj0 : j ≠ 0) (hq : ps[i]? = some q) (hfew : ps.length ≤ 900) (hH : HeapF ltQ (fn zq ps) ps.length) :
    Calls Try.prog 49 #[hp b pre.length, .int .i64 (i : Int)] w fun r w' => r = .returned (.iface 38 (ev q.1 q.2)) ∧ QMoved w o w' j b T pre (HeapedBut ps q) := by
  have hi : i < ps.length := (List.getElem?_eq_some_iff.1 hq).1
  obtain ⟨n, hn⟩ : ∃ n, ps.length = n + 1 := ⟨ps.length - 1, by omega⟩
  obtain ⟨a1, c1, hv1, hc1⟩ := slice_of_own h.row
  obtain ⟨N, hN⟩ : ∃ N, N = n + 1 := ⟨_, rfl⟩
  rw [hn, ← hN] at hv1
  have e1 : (N : Int) - 1 = (n : Int) := by omega
  have hNs : N ≤ 1000 := by omega
  have hm : (method 207 72 (.pointer (some ⟨b, pre.length, none⟩)) "Len").run Try.prog w = .ok (27, v) w := m_len 206 b _ w v h.cell
  have hm2 : (method 207 72 (.pointer (some ⟨b, pre.length, none⟩)) "Swap").run Try.prog w = .ok (75, v) w := m_swap 206 b _ w v h.cell
  have POP := fun (w2 : World) (o2 : Nat → Nat) (v2 : Value) (rs : List (Ent × Value)) (h2 : QAt w2 o2 j b T pre v2 (rs ++ [q])) => pop_any h2 hj0
  have MP := fun (w2 : World) => m_pop 206 b pre.length w2
  by_cases hin : i = n
  · subst hin
    obtain ⟨rs, hrs, hB⟩ := but_of (List.Perm.refl ps) hn (hH.shorter (by omega)) (fn_some hq)
    have hmp := MP w
    have PP := POP w o v rs (by rw [← hrs]; exact h)
    subst hv1
    have HPP : Hid (Calls _ _ _ _ _) := PP
    have HB : Hid (HeapedBut ps q rs) := hB
    clear PP POP MP h hB hrs hn hN hc1 hm2
    generalize ev q.1 q.2 = qv at *
    generalize pre.length = off at *
    go_enter Try.func49, Try.ntmps49
    go_wp2_with (first
      | (go_at_call 27; go_must (refine (len_any _ _ _ _).mono ?_; rintro r w1 ⟨rfl, hw1⟩; replace hw1 := hw1.symm; subst hw1))
      | (go_at_call 77; go_must (refine HPP.out.mono ?_; rintro r w3 ⟨rfl, o3, hq3, hM3⟩)))
    go_ret
    exact ⟨rfl, o3, rs, hq3, hM3, HB.out⟩
  · have SW : Calls Try.prog 75 #[v, .int .i64 (i : Int), .int .i64 (n : Int)] w fun r w' => r = .returned (.tuple #[]) ∧ w'.ownsRow 0 38 8 v ps.length (flatE (swapL zq ps i n)) ∧ w.grownBy w' v.ownBlock := swap_any h.row h.slices (i := i) (j := n) (by omega) (by omega)
    have hf : fn zq (swapL zq ps i n) = sw (fn zq ps) i n := fn_swapL zq (by omega) (by omega)
    have hole : HoleF ltQ (fn zq (swapL zq ps i n)) n 0 i := by
      rw [hf]
      rw [hn] at hH
      exact hH.hole ltQ_ahead (by omega)
    have TU := fun (w1 : World) hr hg => h.turned (w' := w1) hj0 (swapL_length zq ps i n) (mem_swapL (by omega) (by omega)) hr hg
    have DN : ∀ (w1 : World) (o1 : Nat → Nat), QAt w1 o1 j b T pre v (swapL zq ps i n) → Calls Try.prog 55 #[hp b pre.length, .int .i64 (i : Int), .int .i64 (n : Int)] w1 fun r w' => ∃ c, r = .returned (.bool c) ∧ QMoved w1 o1 w' j b T pre (DownE (swapL zq ps i n) n i c) := fun w1 o1 h1 => down_any h1 hj0 i n (by rw [swapL_length]; omega) (by omega) (by rw [swapL_length]; omega) hole (by rw [swapL_length]; omega)
    have hlast : fn zq (swapL zq ps i n) n = q := by rw [hf, sw_snd]; exact fn_some hq
    have FIN : ∀ qs, DownE (swapL zq ps i n) n i true qs → ∃ rs, qs = rs ++ [q] ∧ HeapedBut ps q rs := fun qs hd => but_of (hd.perm.trans (swapL_perm zq (by omega) (by omega))) hn (hd.yes rfl) (by rw [hd.rest n (Nat.le_refl _)]; exact hlast)
    have UP : ∀ (w2 : World) (o2 : Nat → Nat) (v2 : Value) (qs : List (Ent × Value)), DownE (swapL zq ps i n) n i false qs → QAt w2 o2 j b T pre v2 qs → Calls Try.prog 54 #[hp b pre.length, .int .i64 (i : Int)] w2 fun r w' => r = .returned (.tuple #[]) ∧ QMoved w2 o2 w' j b T pre (UpE qs n) := fun w2 o2 v2 qs hd h2 => up_any h2 hj0 i n (by rw [hd.perm.length_eq, swapL_length]; omega) (by omega) (hd.no rfl) (by rw [hd.perm.length_eq, swapL_length]; omega)
    have FIN2 : ∀ qs qs2, DownE (swapL zq ps i n) n i false qs → UpE qs n qs2 → ∃ rs, qs2 = rs ++ [q] ∧ HeapedBut ps q rs := fun qs qs2 hd hu => but_of ((hu.perm.trans hd.perm).trans (swapL_perm zq (by omega) (by omega))) hn hu.heap (by rw [hu.rest n (Nat.le_refl _), hd.rest n (Nat.le_refl _)]; exact hlast)
    have hni : ((n : Int) != (i : Int)) = true := by simp; omega
    subst hv1
    have HSW : Hid (Calls _ _ _ _ _) := SW
    have HTU : Hid (_) := TU
    have HDN : Hid (_) := DN
    have HFIN : Hid (_) := FIN
    have HFIN2 : Hid (_) := FIN2
    have HUP : Hid (_) := UP
    have HPOP : Hid (_) := POP
    have HMP : Hid (_) := MP
    clear SW TU DN FIN FIN2 UP POP MP h hf hole hn hN hc1 hlast hin
    generalize ev q.1 q.2 = qv at *
    generalize pre.length = off at *
    go_enter Try.func49, Try.ntmps49
    go_upto_region 4 with (first
      | (go_at_call 27; go_must (refine (len_any _ _ _ _).mono ?_; rintro r w1 ⟨rfl, hw1⟩; replace hw1 := hw1.symm; subst hw1))
      | (go_at_call 75; go_must (refine HSW.out.mono ?_; rintro r w1 ⟨rfl, hr1, hg1⟩; have H1 := HTU.out w1 hr1 hg1; have HQ1 : Hid (QAt w1 (newTo o w 0) j b T pre (.slice a1 N c1) (swapL zq ps i n)) := H1.1; have HM1 : Hid (Mv [j] w o w1 (newTo o w 0)) := H1.2; clear H1 hr1 hg1 hm hm2)))
    have tk : Hid True := trivial
    go_wp2_with (go_at_call 55; go_must (refine (HDN.out w1 _ HQ1.out).mono ?_; rintro r w2 ⟨c, rfl, o2, qs2, hq2, hM2, hD2⟩; obtain ⟨v2, hQ2⟩ := hq2; have HQ2 : Hid (QAt w2 o2 j b T pre v2 qs2) := hQ2; have HM2 : Hid (Mv [j] w1 (newTo o w 0) w2 o2) := hM2; have HD2 : Hid (DownE (swapL zq ps i n) n i c qs2) := hD2; have hmq : (method 207 72 (.pointer (some ⟨b, off, none⟩)) "Pop").run Try.prog w2 = .ok (77, .pointer (some ⟨b, off, none⟩)) w2 := HMP.out w2; clear hQ2 hM2 hD2; cases c))
    · go_wp2_with (first
        | (go_at_call 54; go_must (refine (HUP.out w2 o2 v2 qs2 HD2.out HQ2.out).mono ?_; rintro r w3 ⟨rfl, o3, qs3, hq3, hM3, hU3⟩; obtain ⟨rs, hrs, hB⟩ := HFIN2.out qs2 qs3 HD2.out hU3; subst hrs; obtain ⟨v3, hQ3⟩ := hq3; have HQ3 : Hid (QAt w3 o3 j b T pre v3 (rs ++ [q])) := hQ3; have HM3 : Hid (Mv [j] w2 o2 w3 o3) := hM3; have HB : Hid (HeapedBut ps q rs) := hB; have hmp : (method 207 72 (.pointer (some ⟨b, off, none⟩)) "Pop").run Try.prog w3 = .ok (77, .pointer (some ⟨b, off, none⟩)) w3 := HMP.out w3; clear hQ3 hM3 hB hU3))
        | (go_at_call 77; go_must (refine (HPOP.out w3 o3 v3 rs HQ3.out).mono ?_; rintro r w4 ⟨rfl, o4, hq4, hM4⟩)))
      go_ret
      exact ⟨rfl, o4, rs, hq4, ((HM1.out.trans HM2.out).trans HM3.out).trans hM4, HB.out⟩
    · obtain ⟨rs, hrs, hB⟩ := HFIN.out qs2 HD2.out
      subst hrs
      have HB : Hid (HeapedBut ps q rs) := hB
      clear hB
      go_wp2_with (go_at_call 77; go_must (refine (HPOP.out w2 o2 v2 rs HQ2.out).mono ?_; rintro r w4 ⟨rfl, o4, hq4, hM4⟩))
      go_ret
      exact ⟨rfl, o4, rs, hq4, (HM1.out.trans HM2.out).trans hM4, HB.out⟩
end Go.Proofs.Ytigfklcclfpcjaa
