/-
  Two lists of operations that are alike.
  What Sort answers, by lists.
  Of each time the first, told by filters.
  The program's Build.
-/
import Derived.Test.YthnjbjlhfohpfaaGreatSam
import Derived.Test.YthnjbjlhfohpfaaGreatTsD
import Derived.Test.YthnjbjlhfohpfaaGreatLsG
namespace Go.Proofs.YthnjbjlhfohpfaaGreat
section
set_option linter.unusedVariables false
set_option linter.unusedSimpArgs false
set_option synthInstance.maxSize 20000
set_option maxHeartbeats 2000000
set_option maxRecDepth 20000
open Go.RowKit Go.Maps

theorem sameO_bare {q r : OpT} (h : bare q = bare r) : sameO q r = true := by
  obtain ⟨k, a, n, p, d, s, va, vn, vc, b⟩ := q
  obtain ⟨k2, a2, n2, p2, d2, s2, va2, vn2, vc2, b2⟩ := r
  unfold bare at h
  simp only [OpT.mk.injEq, true_and, and_true] at h
  obtain ⟨rfl, rfl, rfl, rfl, rfl, rfl, rfl⟩ := h
  simp [sameO]
set_option maxHeartbeats 4000000 in
theorem all20 {w : World} {v u : Value} {x y : List OpT} (hv : RowF oc w v x) (hu : RowF oc w u y) (hx : ∀ q ∈ x, Rd w q.v q.b) (hy : ∀ q ∈ y, Rd w q.v q.b) (h : x.map bare = y.map bare) :
    Calls Tryz.prog 11 #[v, u] w fun e w' => e = .returned (.bool true) ∧ Below w.heap.size w w' := by
  have hN : y.length = x.length := by have := congrArg List.length h; simpa using this.symm
  obtain ⟨a, c, rfl⟩ := hv.len
  obtain ⟨a2, c2, rfl⟩ := hu.len
  have hcap := hv.caps
  have hcap2 := hu.caps
  have hcapN : x.length ≤ 9223372036854775807 := by omega
  have HV : Hid (RowF oc w (.slice a x.length c) x) := hv
  have HU : Hid (RowF oc w (.slice a2 y.length c2) y) := hu
  rw [hN] at HU ⊢
  have HN : Hid (y.length = x.length) := hN
  have HX : Hid (∀ q ∈ x, Rd w q.v q.b) := hx
  have HY : Hid (∀ q ∈ y, Rd w q.v q.b) := hy
  have HE : Hid (x.map bare = y.map bare) := h
  have HNL : Hid (∃ N, x.length = N) := ⟨_, rfl⟩
  obtain ⟨N, hNN⟩ := HNL.out
  have HNN : Hid (x.length = N) := hNN
  rw [hNN] at HV HU HN hcapN ⊢
  clear hv hu hx hy h hN hcap hcap2 HNL hNN
  go_enter Tryz.func11, Tryz.ntmps11
  go_wp2
  go_loopw [5] (fun i wr => ∃ m : Nat, i = .int .i64 (m : Int) ∧ m ≤ N ∧ Hid (Below w.heap.size w wr)) (fun i _ => N - (intOf i).toNat)
  case atStart => exact ⟨0, rfl, Nat.zero_le _, Below.refl _ _⟩
  case round =>
    obtain ⟨m, rfl, hm, HB⟩ := hrel
    rename World => wq
    by_cases hk : m < N
    · have hkI : (m : Int) < (N : Int) := by omega
      obtain ⟨q, hq⟩ : ∃ q, x[m]? = some q := ⟨_, List.getElem?_eq_getElem (by have := HNN.out; omega)⟩
      obtain ⟨r, hr⟩ : ∃ r, y[m]? = some r := ⟨_, List.getElem?_eq_getElem (by have := HN.out; omega)⟩
      have hqr : bare q = bare r := by
        have h1 : (x.map bare)[m]? = (y.map bare)[m]? := by rw [HE.out]
        rw [List.getElem?_map, List.getElem?_map, hq, hr] at h1
        simpa using h1
      have hs := sameO_bare hqr
      obtain ⟨b1, o1, rfl, _⟩ := HV.out.at oc_len hq
      obtain ⟨b2, o2, rfl, _⟩ := HU.out.at oc_len hr
      have hC : ∀ w' : World, Below wq.heap.size wq w' → w'.rangeAt b1 (o1 + m * 10) (oc q) ∧ w'.rangeAt b2 (o2 + m * 10) (oc r) := fun w' hb => by
        obtain ⟨b1', o1', e1, h1⟩ := (HV.out.below (bnext HB.out hb)).at oc_len hq
        obtain ⟨b2', o2', e2, h2⟩ := (HU.out.below (bnext HB.out hb)).at oc_len hr
        cases e1
        cases e2
        exact ⟨h1, h2⟩
      have HCL : Hid (∀ z : WIn (fun w' => Below wq.heap.size wq w'), z.w.rangeAt b1 (o1 + m * 10) (oc q) ∧ z.w.rangeAt b2 (o2 + m * 10) (oc r)) := fun z => hC z.w z.ok
      have hqx := HX.out q (List.mem_of_getElem? hq)
      have hrx := HY.out r (List.mem_of_getElem? hr)
      have HK : Hid (∀ w' : World, Below wq.heap.size wq w' → Calls Tryz.prog 27 #[ov q, ov r] w' fun r w'' => r = .returned (.bool true) ∧ Below w'.heap.size w' w'') := fun w' hb => by
        have := rsame19 (w := w') (hqx.below (bnext HB.out hb)) (hrx.below (bnext HB.out hb))
        rwa [hs] at this
      have ne : Nonempty (WIn (fun w' => Below wq.heap.size wq w')) := ⟨⟨wq, Below.refl _ _⟩⟩
      clear hq hr hqr hs hC hqx hrx
      go_wp2_with fail
      refine wp_region_tree (C := fun w' => ∃ z : WIn (fun w' => Below wq.heap.size wq w'), w' = z.w) (.still 0 (.still 1 (.still 2 (.still 3 (.still 4 (.still 5 (.still 6 (.still 7 (.one 8 (.still 9 .done)))))))))) (by kernel_rfl) (by kernel_rfl) ⟨⟨wq.drew, below_drewn wq 1⟩, rfl⟩ ?_
      iterate 3 (refine tree_still rfl rfl ?_; go_big_quiet_step (fail); refine wpQuiet_nil ?_)
      refine tree_still rfl rfl ?_
      refine quiet_ok1 rfl (fun w' hw' => by obtain ⟨z, rfl⟩ := hw'; exact exec_load26 (q := q) (.tmp 19) rfl rfl (HCL.out z).1) ?_
      go_simp
      iterate 3 (refine tree_still rfl rfl ?_; go_big_quiet_step (fail); refine wpQuiet_nil ?_)
      refine tree_still rfl rfl ?_
      refine quiet_ok1 rfl (fun w' hw' => by obtain ⟨z, rfl⟩ := hw'; exact exec_load26 (q := r) (.tmp 23) rfl rfl (HCL.out z).2) ?_
      go_simp
      refine tree_one rfl rfl ?_
      go_simp
      refine (HK.out _ (below_drewn wq 1)).mono ?_
      rintro r w3 ⟨rfl, hb3⟩
      have HB3 : Hid (Below wq.heap.size wq w3) := bnext (below_drewn wq 1) hb3
      clear hb3
      refine ⟨⟨⟨w3, HB3.out⟩, rfl⟩, ?_⟩
      go_simp
      iterate 1 (refine tree_still rfl rfl ?_; go_big_quiet_step (fail); refine wpQuiet_nil ?_)
      refine tree_done ?_
      clear ne HCL HK
      go_wp2
      go_roundw
      case rel => exact ⟨m + 1, by go_num, by omega, bnext HB.out HB3.out⟩
      case measure => simp [intOf]; omega
    · have hkI : ¬ (m : Int) < (N : Int) := by omega
      go_wp2
      go_ret
      exact ⟨rfl, HB.out⟩
end

section
set_option linter.unusedVariables false
set_option linter.unusedSimpArgs false
set_option synthInstance.maxSize 20000
set_option maxHeartbeats 2000000
set_option maxRecDepth 20000
open Go.RowKit Go.Maps

theorem le_ne_lt {a b : S} (h : ¬ ltP b a) (hn : ¬ b = a) : ltP a b := by
  obtain ⟨a1, a2⟩ := a
  obtain ⟨b1, b2⟩ := b
  simp only [Prod.mk.injEq] at hn
  unfold ltP at *
  omega
theorem ddO_str : ∀ (r : List OpT) (p : S), (∀ q ∈ r, ¬ ltP q.a p) → SrtO r → (∀ q ∈ ddO p r, ltP p q.a) ∧ (ddO p r).Pairwise LtO
  | [], p, _, _ => ⟨fun q hq => by simp [ddO] at hq, by simp [ddO]⟩
  | x :: r, p, hp, hs => by
    have hx : ∀ q ∈ r, ¬ ltP q.a x.a := fun q hq => (List.pairwise_cons.1 hs).1 q hq
    have hr : SrtO r := (List.pairwise_cons.1 hs).2
    by_cases e : x.a = p
    · rw [ddO_same e]
      exact ddO_str r p (fun q hq => hp q (List.mem_cons_of_mem _ hq)) hr
    · rw [ddO_other e]
      have ih := ddO_str r x.a hx hr
      have hpx : ltP p x.a := le_ne_lt (hp x List.mem_cons_self) e
      refine ⟨fun q hq => ?_, List.pairwise_cons.2 ⟨ih.1, ih.2⟩⟩
      rcases List.mem_cons.1 hq with h | h
      · rw [h]; exact hpx
      · exact ltP_trans hpx (ih.1 q h)
theorem firsts_str {l : List OpT} (h : SrtO l) : (firstsO l).Pairwise LtO := by
  cases l with
  | nil => simp [firstsO]
  | cons x r =>
    have ih := ddO_str r x.a (fun q hq => (List.pairwise_cons.1 h).1 q hq) (List.pairwise_cons.1 h).2
    exact List.pairwise_cons.2 ⟨ih.1, ih.2⟩
theorem ddO_has : ∀ (r : List OpT) (p : S) (q : OpT), q ∈ r → q.a = p ∨ ∃ s ∈ ddO p r, s.a = q.a
  | [], p, q, h => by cases h
  | x :: r, p, q, h => by
    by_cases e : x.a = p
    · rw [ddO_same e]
      rcases List.mem_cons.1 h with h1 | h1
      · rw [h1]; exact .inl e
      · exact ddO_has r p q h1
    · rw [ddO_other e]
      rcases List.mem_cons.1 h with h1 | h1
      · exact .inr ⟨x, List.mem_cons_self, by rw [h1]⟩
      · rcases ddO_has r x.a q h1 with h2 | ⟨s, h2, h3⟩
        · exact .inr ⟨x, List.mem_cons_self, h2.symm⟩
        · exact .inr ⟨s, List.mem_cons_of_mem _ h2, h3⟩
theorem firsts_has {l : List OpT} {q : OpT} (h : q ∈ l) : ∃ s ∈ firstsO l, s.a = q.a := by
  cases l with
  | nil => cases h
  | cons x r =>
    rcases List.mem_cons.1 h with h1 | h1
    · exact ⟨x, List.mem_cons_self, by rw [h1]⟩
    · rcases ddO_has r x.a q h1 with h2 | ⟨s, h2, h3⟩
      · exact ⟨x, List.mem_cons_self, h2.symm⟩
      · exact ⟨s, List.mem_cons_of_mem _ h2, h3⟩
theorem ddO_id : ∀ (r : List OpT) (p : S), (∀ q ∈ r, ltP p q.a) → r.Pairwise LtO → ddO p r = r
  | [], _, _, _ => rfl
  | x :: r, p, hp, hs => by
    have e : ¬ x.a = p := fun e => ltP_irrefl p (by have := hp x List.mem_cons_self; rwa [e] at this)
    rw [ddO_other e, ddO_id r x.a (List.pairwise_cons.1 hs).1 (List.pairwise_cons.1 hs).2]
theorem firsts_id {l : List OpT} (h : l.Pairwise LtO) : firstsO l = l := by
  cases l with
  | nil => rfl
  | cons x r => rw [firstsO, ddO_id r x.a (List.pairwise_cons.1 h).1 (List.pairwise_cons.1 h).2]
theorem ddO_len : ∀ (r : List OpT) (p : S), (ddO p r).length ≤ r.length
  | [], _ => Nat.le_refl _
  | x :: r, p => by
    by_cases e : x.a = p
    · rw [ddO_same e]; have := ddO_len r p; simp; omega
    · rw [ddO_other e]; have := ddO_len r x.a; simp; omega
theorem firsts_len (l : List OpT) : (firstsO l).length ≤ l.length := by
  cases l with
  | nil => exact Nat.le_refl _
  | cons x r => have := ddO_len r x.a; simp [firstsO]; omega
theorem str_srt {l : List OpT} (h : l.Pairwise LtO) : SrtO l := h.imp fun h1 => lt_le h1
theorem keep_mem2 {l z : List OpT} {q : OpT} (h : Keep l z) (hq : q ∈ l) : q ∈ z := keep_mem (fun c => (h c).symm) hq
theorem alike_a {x y : List OpT} (h : x.map bare = y.map bare) : x.map (fun q => q.a) = y.map (fun q => q.a) := by
  have := congrArg (List.map (fun q : OpT => q.a)) h
  rw [List.map_map, List.map_map] at this
  exact this
section
variable {l l' z : List OpT} {w' : World} {v' : Value}
/-- What Sort answers stands in order, no two of one time. -/
theorem Srtd.str (h : Srtd l w' v' l' z) : l'.Pairwise LtO := by
  have h1 : ((firstsO z).map (fun q => q.a)).Pairwise ltP := List.pairwise_map.2 (firsts_str h.srt)
  rw [← alike_a h.alike] at h1
  exact (List.pairwise_map (f := fun q : OpT => q.a)).1 h1
theorem Srtd.few (h : Srtd l w' v' l' z) : l'.length ≤ l.length := by
  have h1 := congrArg List.length h.alike
  simp only [List.length_map] at h1
  have := firsts_len z
  have := h.len
  omega
theorem Srtd.has (h : Srtd l w' v' l' z) {q : OpT} (hq : q ∈ l) : ∃ s ∈ l', s.a = q.a := by
  obtain ⟨s, h1, h2⟩ := firsts_has (keep_mem2 h.keep hq)
  have h3 : s.a ∈ (firstsO z).map (fun q => q.a) := List.mem_map.2 ⟨s, h1, rfl⟩
  rw [← alike_a h.alike] at h3
  obtain ⟨t, h4, h5⟩ := List.mem_map.1 h3
  exact ⟨t, h4, h5.trans h2⟩
/-- In order again: nothing turns. -/
theorem Srtd.again {l2 z2 : List OpT} {w2 : World} {v2 : Value} (h : Srtd l w' v' l' z) (h2 : Srtd l' w2 v2 l2 z2) : l2.map bare = l'.map bare := by
  have e : l' = z2 := keep_one _ _ (str_srt h.str) h2.srt (fun c => h2.keep c)
  rw [h2.alike, ← e, firsts_id h.str]
end
end

section
set_option linter.unusedVariables false
set_option linter.unusedSimpArgs false
set_option synthInstance.maxSize 20000
set_option maxHeartbeats 2000000
set_option maxRecDepth 20000
open Go.RowKit Go.Maps

theorem ddO_filter : ∀ (r : List OpT) (p : S), (∀ q ∈ r, ¬ ltP q.a p) → SrtO r → ∀ c, (ddO p r).filter (atK c) = if c = p then [] else (r.filter (atK c)).take 1
  | [], p, _, _, c => by simp [ddO]
  | x :: r, p, hp, hs, c => by
    have hx : ∀ q ∈ r, ¬ ltP q.a x.a := fun q hq => (List.pairwise_cons.1 hs).1 q hq
    have hr : SrtO r := (List.pairwise_cons.1 hs).2
    by_cases e : x.a = p
    · rw [ddO_same e, ddO_filter r p (fun q hq => hp q (List.mem_cons_of_mem _ hq)) hr c]
      by_cases h : c = p
      · rw [if_pos h, if_pos h]
      · rw [if_neg h, if_neg h, List.filter_cons_of_neg (by simp only [atK, decide_eq_true_eq]; exact fun h2 => h (h2.symm.trans e))]
    · rw [ddO_other e]
      by_cases h : c = p
      · rw [if_pos h, List.filter_eq_nil_iff]
        intro q hq
        simp only [atK, decide_eq_true_eq]
        intro h2
        have hpx : ltP p x.a := le_ne_lt (hp x List.mem_cons_self) e
        rcases List.mem_cons.1 hq with h1 | h1
        · rw [h1] at h2; exact e (h2.trans h)
        · have h3 := ltP_trans hpx ((ddO_str r x.a hx hr).1 q h1)
          rw [h2, h] at h3
          exact ltP_irrefl _ h3
      · rw [if_neg h]
        by_cases h2 : x.a = c
        · rw [List.filter_cons_of_pos (by simp [atK, h2]), List.filter_cons_of_pos (by simp [atK, h2]), ddO_filter r x.a hx hr c, if_pos h2.symm]
          rfl
        · rw [List.filter_cons_of_neg (by simp [atK, h2]), List.filter_cons_of_neg (by simp [atK, h2]), ddO_filter r x.a hx hr c, if_neg (fun h3 => h2 h3.symm)]
theorem firsts_filter {l : List OpT} (h : SrtO l) (c : S) : (firstsO l).filter (atK c) = (l.filter (atK c)).take 1 := by
  cases l with
  | nil => rfl
  | cons x r =>
    have ih := ddO_filter r x.a (fun q hq => (List.pairwise_cons.1 h).1 q hq) (List.pairwise_cons.1 h).2 c
    show (x :: ddO x.a r).filter (atK c) = _
    by_cases h2 : x.a = c
    · rw [List.filter_cons_of_pos (by simp [atK, h2]), List.filter_cons_of_pos (by simp [atK, h2]), ih, if_pos h2.symm]
      rfl
    · rw [List.filter_cons_of_neg (by simp [atK, h2]), List.filter_cons_of_neg (by simp [atK, h2]), ih, if_neg (fun h3 => h2 h3.symm)]
/-- A list in order that holds of each time the first of l is what Sort answers. -/
theorem firsts_one {l z r : List OpT} (hz : SrtO z) (hk : Keep l z) (hr : r.Pairwise LtO) (hf : ∀ c, r.filter (atK c) = (l.filter (atK c)).take 1) : r = firstsO z :=
  keep_one _ _ (str_srt hr) (str_srt (firsts_str hz)) fun c => by rw [firsts_filter hz, hk c, hf c]
end

section
set_option linter.unusedVariables false
set_option linter.unusedSimpArgs false
set_option synthInstance.maxSize 20000
set_option maxHeartbeats 2000000
set_option maxRecDepth 20000
open Go.RowKit Go.Maps

theorem FirstOf.uniq {O O' l l' : List OpT} (h : FirstOf O l) (h' : FirstOf O' l') (hk : Keep l l') : O = O' :=
  keep_one O O' (str_srt h.str) (str_srt h'.str) fun c => by rw [h.one, h'.one, hk c]
theorem firstOf_srt {l z : List OpT} (hz : SrtO z) (hk : Keep l z) : FirstOf (firstsO z) l := ⟨firsts_str hz, fun c => by rw [firsts_filter hz, hk c]⟩
/-- As many bytes as are told. -/
def Okv (q : OpT) : Prop := q.vn = q.b.length
theorem okv_of {w : World} {q : OpT} (h : Rd w q.v q.b) : Okv q := by
  obtain ⟨_, a, cap, e, _⟩ := h
  unfold OpT.v at e
  injection e
theorem do_bare {L : List IM} {q r : OpT} (h : bare q = bare r) (hq : Okv q) (hr : Okv r) : doM L q = doM L r := by
  obtain ⟨k, a, n, p, d, s, va, vn, vc, b⟩ := q
  obtain ⟨k', a', n', p', d', s', va', vn', vc', b'⟩ := r
  unfold bare at h
  simp only [OpT.mk.injEq, and_true, true_and] at h
  obtain ⟨rfl, rfl, rfl, rfl, rfl, rfl, rfl⟩ := h
  have e : vn = vn' := hq.trans hr.symm
  subst e
  rfl
theorem build_bare : ∀ {l l' : List OpT} {L : List IM}, l.map bare = l'.map bare → (∀ q ∈ l, Okv q) → (∀ q ∈ l', Okv q) → buildM L l = buildM L l'
  | [], [], L, _, _, _ => rfl
  | [], _ :: _, L, h, _, _ => by cases h
  | _ :: _, [], L, h, _, _ => by cases h
  | q :: l, r :: l', L, h, h1, h2 => by
    simp only [List.map_cons, List.cons.injEq] at h
    show buildM (doM L q) l = buildM (doM L r) l'
    rw [do_bare h.1 (h1 q (by simp)) (h2 r (by simp))]
    exact build_bare h.2 (fun q hq => h1 q (by simp [hq])) (fun q hq => h2 q (by simp [hq]))
theorem build_snoc (L : List IM) (l : List OpT) (q : OpT) : buildM L (l ++ [q]) = doM (buildM L l) q := by
  unfold buildM
  rw [List.foldl_append]
  rfl
theorem bare_mem {l l' : List OpT} (h : l.map bare = l'.map bare) {q : OpT} (hq : q ∈ l) : ∃ r ∈ l', bare q = bare r := by
  have : bare q ∈ l'.map bare := by rw [← h]; exact List.mem_map.2 ⟨q, hq, rfl⟩
  obtain ⟨r, hr, e⟩ := List.mem_map.1 this
  exact ⟨r, hr, e.symm⟩
/-- What Build answers. -/
def BuildAns (w : World) (l : List OpT) (e : Ending) (w' : World) : Prop := ∃ tb mo L O, e = .returned (ptr tb) ∧ PTr w' tb mo L ∧ FirstOf O l ∧ L.map IT.m = buildM [] O ∧ O.length ≤ l.length ∧ w.heap.size ≤ tb ∧ (∀ k, mo = some k → w.heap.size ≤ k) ∧ Below w.heap.size w w'
theorem exec_alloc40 {o : Oper} {r : Operand → Value} {w : World} (ho : o.op = .alloc 38) : (execOp r o).run Tryz.prog w = .ok (.value (ptr w.heap.size)) (w.alloc (.cells (oc oz).toArray 38)) := by
  unfold execOp
  simp only [ho]
  go_simp
  rfl
theorem exec_store40 {w : World} {o : Oper} {r : Operand → Value} {b off : Nat} {q : OpT} (x y : Operand) (ho : o.op = .store 38 x y) (hx : r x = .pointer (some ⟨b, off, none⟩)) (hy : r y = ov q) (ht : w.there b off 10) : (execOp r o).run Tryz.prog w = .ok .skip (w.setCells b off (oc q)) := exec_store26 x y ho hx hy ht
theorem op_put {w0 w w3 w4 : World} {g : Nat} {q : OpT} (hb : Below w0.heap.size w0 w) (h3 : w3 = w.alloc (.cells (oc oz).toArray 38)) (hg : g = w.heap.size) (h4 : w4 = w3.setCells g 0 (oc q)) : Opb w4 g q ∧ Below w0.heap.size w0 w4 ∧ Below w.heap.size w w4 ∧ w3.there g 0 10 := by
  subst h3 hg h4
  have h1 : Blk (w.alloc (.cells (oc oz).toArray 38)) w.heap.size 38 (oc oz) := blk_new w (oc oz) 38
  have h2 := Blk.setCells h1 0 (oc q) (by rw [oc_len, oc_len]; omega)
  rw [splice_all _ _ (by rw [oc_len, oc_len])] at h2
  exact ⟨h2, below_put (balloc hb _) hb.size, below_put (balloc (Below.refl _ _) _) (Nat.le_refl _), h1.there 0 10 (by rw [oc_len]; omega)⟩
end
end Go.Proofs.YthnjbjlhfohpfaaGreat
