/-
  What Sort answers, by lists.
  Of each time the first, told by filters.
  The program's Build.
-/
import Derived.Test.YthnjbjlhfohpfaaAll
import Derived.Test.YthnjbjlhfohpfaaTsD
import Derived.Test.YthnjbjlhfohpfaaLsG
namespace Go.Proofs.Ythnjbjlhfohpfaa
section
set_option linter.unusedVariables false
set_option linter.unusedSimpArgs false
set_option synthInstance.maxSize 20000
set_option maxHeartbeats 2000000
set_option maxRecDepth 20000
open Go.RowKit Go.Maps

theorem le_ne_lt {a b : S} (h : ¬ ltP b a) (hn : ¬ b = a) : ltP a b := by
  obtain ⟨a1, a2⟩ := a
  obtain ⟨b1, b2⟩ := b
  simp only [Prod.mk.injEq] at hn
  unfold ltP at *
  omega
theorem ddO_str : ∀ (r : List OpT) (p : S), (∀ q ∈ r, ¬ ltP q.a p) → SrtO r → (∀ q ∈ ddO p r, ltP p q.a) ∧ (ddO p r).Pairwise LtO
  | [], p, _, _ => ⟨fun q hq => by simp [ddO] at hq, by simp [ddO]⟩
  | x :: r, p, hp, hs => by
    have hx : ∀ q ∈ r, ¬ ltP q.a x.a := fun q hq => (List.pairwise_cons.1 hs).1 q hq
    have hr : SrtO r := (List.pairwise_cons.1 hs).2
    by_cases e : x.a = p
    · rw [ddO_same e]
      exact ddO_str r p (fun q hq => hp q (List.mem_cons_of_mem _ hq)) hr
    · rw [ddO_other e]
      have ih := ddO_str r x.a hx hr
      have hpx : ltP p x.a := le_ne_lt (hp x List.mem_cons_self) e
      refine ⟨fun q hq => ?_, List.pairwise_cons.2 ⟨ih.1, ih.2⟩⟩
      rcases List.mem_cons.1 hq with h | h
      · rw [h]; exact hpx
      · exact ltP_trans hpx (ih.1 q h)
theorem firsts_str {l : List OpT} (h : SrtO l) : (firstsO l).Pairwise LtO := by
  cases l with
  | nil => simp [firstsO]
  | cons x r =>
    have ih := ddO_str r x.a (fun q hq => (List.pairwise_cons.1 h).1 q hq) (List.pairwise_cons.1 h).2
    exact List.pairwise_cons.2 ⟨ih.1, ih.2⟩
theorem ddO_has : ∀ (r : List OpT) (p : S) (q : OpT), q ∈ r → q.a = p ∨ ∃ s ∈ ddO p r, s.a = q.a
  | [], p, q, h => by cases h
  | x :: r, p, q, h => by
    by_cases e : x.a = p
    · rw [ddO_same e]
      rcases List.mem_cons.1 h with h1 | h1
      · rw [h1]; exact .inl e
      · exact ddO_has r p q h1
    · rw [ddO_other e]
      rcases List.mem_cons.1 h with h1 | h1
      · exact .inr ⟨x, List.mem_cons_self, by rw [h1]⟩
      · rcases ddO_has r x.a q h1 with h2 | ⟨s, h2, h3⟩
        · exact .inr ⟨x, List.mem_cons_self, h2.symm⟩
        · exact .inr ⟨s, List.mem_cons_of_mem _ h2, h3⟩
theorem firsts_has {l : List OpT} {q : OpT} (h : q ∈ l) : ∃ s ∈ firstsO l, s.a = q.a := by
  cases l with
  | nil => cases h
  | cons x r =>
    rcases List.mem_cons.1 h with h1 | h1
    · exact ⟨x, List.mem_cons_self, by rw [h1]⟩
    · rcases ddO_has r x.a q h1 with h2 | ⟨s, h2, h3⟩
      · exact ⟨x, List.mem_cons_self, h2.symm⟩
      · exact ⟨s, List.mem_cons_of_mem _ h2, h3⟩
theorem ddO_id : ∀ (r : List OpT) (p : S), (∀ q ∈ r, ltP p q.a) → r.Pairwise LtO → ddO p r = r
  | [], _, _, _ => rfl
  | x :: r, p, hp, hs => by
    have e : ¬ x.a = p := fun e => ltP_irrefl p (by have := hp x List.mem_cons_self; rwa [e] at this)
    rw [ddO_other e, ddO_id r x.a (List.pairwise_cons.1 hs).1 (List.pairwise_cons.1 hs).2]
theorem firsts_id {l : List OpT} (h : l.Pairwise LtO) : firstsO l = l := by
  cases l with
  | nil => rfl
  | cons x r => rw [firstsO, ddO_id r x.a (List.pairwise_cons.1 h).1 (List.pairwise_cons.1 h).2]
theorem ddO_len : ∀ (r : List OpT) (p : S), (ddO p r).length ≤ r.length
  | [], _ => Nat.le_refl _
  | x :: r, p => by
    by_cases e : x.a = p
    · rw [ddO_same e]; have := ddO_len r p; simp; omega
    · rw [ddO_other e]; have := ddO_len r x.a; simp; omega
theorem firsts_len (l : List OpT) : (firstsO l).length ≤ l.length := by
  cases l with
  | nil => exact Nat.le_refl _
  | cons x r => have := ddO_len r x.a; simp [firstsO]; omega
theorem str_srt {l : List OpT} (h : l.Pairwise LtO) : SrtO l := h.imp fun h1 => lt_le h1
theorem keep_mem2 {l z : List OpT} {q : OpT} (h : Keep l z) (hq : q ∈ l) : q ∈ z := keep_mem (fun c => (h c).symm) hq
theorem alike_a {x y : List OpT} (h : x.map bare = y.map bare) : x.map (fun q => q.a) = y.map (fun q => q.a) := by
  have := congrArg (List.map (fun q : OpT => q.a)) h
  rw [List.map_map, List.map_map] at this
  exact this
section
variable {l l' z : List OpT} {w' : World} {v' : Value}
/-- What Sort answers stands in order, no two of one time. -/
theorem Srtd.str (h : Srtd l w' v' l' z) : l'.Pairwise LtO := by
  have h1 : ((firstsO z).map (fun q => q.a)).Pairwise ltP := List.pairwise_map.2 (firsts_str h.srt)
  rw [← alike_a h.alike] at h1
  exact (List.pairwise_map (f := fun q : OpT => q.a)).1 h1
theorem Srtd.few (h : Srtd l w' v' l' z) : l'.length ≤ l.length := by
  have h1 := congrArg List.length h.alike
  simp only [List.length_map] at h1
  have := firsts_len z
  have := h.len
  omega
theorem Srtd.has (h : Srtd l w' v' l' z) {q : OpT} (hq : q ∈ l) : ∃ s ∈ l', s.a = q.a := by
  obtain ⟨s, h1, h2⟩ := firsts_has (keep_mem2 h.keep hq)
  have h3 : s.a ∈ (firstsO z).map (fun q => q.a) := List.mem_map.2 ⟨s, h1, rfl⟩
  rw [← alike_a h.alike] at h3
  obtain ⟨t, h4, h5⟩ := List.mem_map.1 h3
  exact ⟨t, h4, h5.trans h2⟩
/-- In order again: nothing turns. -/
theorem Srtd.again {l2 z2 : List OpT} {w2 : World} {v2 : Value} (h : Srtd l w' v' l' z) (h2 : Srtd l' w2 v2 l2 z2) : l2.map bare = l'.map bare := by
  have e : l' = z2 := keep_one _ _ (str_srt h.str) h2.srt (fun c => h2.keep c)
  rw [h2.alike, ← e, firsts_id h.str]
end
end

section
set_option linter.unusedVariables false
set_option linter.unusedSimpArgs false
set_option synthInstance.maxSize 20000
set_option maxHeartbeats 2000000
set_option maxRecDepth 20000
open Go.RowKit Go.Maps

theorem ddO_filter : ∀ (r : List OpT) (p : S), (∀ q ∈ r, ¬ ltP q.a p) → SrtO r → ∀ c, (ddO p r).filter (atK c) = if c = p then [] else (r.filter (atK c)).take 1
  | [], p, _, _, c => by simp [ddO]
  | x :: r, p, hp, hs, c => by
    have hx : ∀ q ∈ r, ¬ ltP q.a x.a := fun q hq => (List.pairwise_cons.1 hs).1 q hq
    have hr : SrtO r := (List.pairwise_cons.1 hs).2
    by_cases e : x.a = p
    · rw [ddO_same e, ddO_filter r p (fun q hq => hp q (List.mem_cons_of_mem _ hq)) hr c]
      by_cases h : c = p
      · rw [if_pos h, if_pos h]
      · rw [if_neg h, if_neg h, List.filter_cons_of_neg (by simp only [atK, decide_eq_true_eq]; exact fun h2 => h (h2.symm.trans e))]
    · rw [ddO_other e]
      by_cases h : c = p
      · rw [if_pos h, List.filter_eq_nil_iff]
        intro q hq
        simp only [atK, decide_eq_true_eq]
        intro h2
        have hpx : ltP p x.a := le_ne_lt (hp x List.mem_cons_self) e
        rcases List.mem_cons.1 hq with h1 | h1
        · rw [h1] at h2; exact e (h2.trans h)
        · have h3 := ltP_trans hpx ((ddO_str r x.a hx hr).1 q h1)
          rw [h2, h] at h3
          exact ltP_irrefl _ h3
      · rw [if_neg h]
        by_cases h2 : x.a = c
        · rw [List.filter_cons_of_pos (by simp [atK, h2]), List.filter_cons_of_pos (by simp [atK, h2]), ddO_filter r x.a hx hr c, if_pos h2.symm]
          rfl
        · rw [List.filter_cons_of_neg (by simp [atK, h2]), List.filter_cons_of_neg (by simp [atK, h2]), ddO_filter r x.a hx hr c, if_neg (fun h3 => h2 h3.symm)]
theorem firsts_filter {l : List OpT} (h : SrtO l) (c : S) : (firstsO l).filter (atK c) = (l.filter (atK c)).take 1 := by
  cases l with
  | nil => rfl
  | cons x r =>
    have ih := ddO_filter r x.a (fun q hq => (List.pairwise_cons.1 h).1 q hq) (List.pairwise_cons.1 h).2 c
    show (x :: ddO x.a r).filter (atK c) = _
    by_cases h2 : x.a = c
    · rw [List.filter_cons_of_pos (by simp [atK, h2]), List.filter_cons_of_pos (by simp [atK, h2]), ih, if_pos h2.symm]
      rfl
    · rw [List.filter_cons_of_neg (by simp [atK, h2]), List.filter_cons_of_neg (by simp [atK, h2]), ih, if_neg (fun h3 => h2 h3.symm)]
/-- A list in order that holds of each time the first of l is what Sort answers. -/
theorem firsts_one {l z r : List OpT} (hz : SrtO z) (hk : Keep l z) (hr : r.Pairwise LtO) (hf : ∀ c, r.filter (atK c) = (l.filter (atK c)).take 1) : r = firstsO z :=
  keep_one _ _ (str_srt hr) (str_srt (firsts_str hz)) fun c => by rw [firsts_filter hz, hk c, hf c]
end

section
set_option linter.unusedVariables false
set_option linter.unusedSimpArgs false
set_option synthInstance.maxSize 20000
set_option maxHeartbeats 2000000
set_option maxRecDepth 20000
open Go.RowKit Go.Maps

theorem FirstOf.uniq {O O' l l' : List OpT} (h : FirstOf O l) (h' : FirstOf O' l') (hk : Keep l l') : O = O' :=
  keep_one O O' (str_srt h.str) (str_srt h'.str) fun c => by rw [h.one, h'.one, hk c]
theorem firstOf_srt {l z : List OpT} (hz : SrtO z) (hk : Keep l z) : FirstOf (firstsO z) l := ⟨firsts_str hz, fun c => by rw [firsts_filter hz, hk c]⟩
/-- As many bytes as are told. -/
def Okv (q : OpT) : Prop := q.vn = q.b.length
theorem okv_of {w : World} {q : OpT} (h : Rd w q.v q.b) : Okv q := by
  obtain ⟨_, a, cap, e, _⟩ := h
  unfold OpT.v at e
  injection e
theorem do_bare {L : List IM} {q r : OpT} (h : bare q = bare r) (hq : Okv q) (hr : Okv r) : doM L q = doM L r := by
  obtain ⟨k, a, n, p, d, s, va, vn, vc, b⟩ := q
  obtain ⟨k', a', n', p', d', s', va', vn', vc', b'⟩ := r
  unfold bare at h
  simp only [OpT.mk.injEq, and_true, true_and] at h
  obtain ⟨rfl, rfl, rfl, rfl, rfl, rfl, rfl⟩ := h
  have e : vn = vn' := hq.trans hr.symm
  subst e
  rfl
theorem build_bare : ∀ {l l' : List OpT} {L : List IM}, l.map bare = l'.map bare → (∀ q ∈ l, Okv q) → (∀ q ∈ l', Okv q) → buildM L l = buildM L l'
  | [], [], L, _, _, _ => rfl
  | [], _ :: _, L, h, _, _ => by cases h
  | _ :: _, [], L, h, _, _ => by cases h
  | q :: l, r :: l', L, h, h1, h2 => by
    simp only [List.map_cons, List.cons.injEq] at h
    show buildM (doM L q) l = buildM (doM L r) l'
    rw [do_bare h.1 (h1 q (by simp)) (h2 r (by simp))]
    exact build_bare h.2 (fun q hq => h1 q (by simp [hq])) (fun q hq => h2 q (by simp [hq]))
theorem build_snoc (L : List IM) (l : List OpT) (q : OpT) : buildM L (l ++ [q]) = doM (buildM L l) q := by
  unfold buildM
  rw [List.foldl_append]
  rfl
theorem bare_mem {l l' : List OpT} (h : l.map bare = l'.map bare) {q : OpT} (hq : q ∈ l) : ∃ r ∈ l', bare q = bare r := by
  have : bare q ∈ l'.map bare := by rw [← h]; exact List.mem_map.2 ⟨q, hq, rfl⟩
  obtain ⟨r, hr, e⟩ := List.mem_map.1 this
  exact ⟨r, hr, e.symm⟩
/-- What Build answers. -/
def BuildAns (w : World) (l : List OpT) (e : Ending) (w' : World) : Prop := ∃ tb mo L O, e = .returned (ptr tb) ∧ PTr w' tb mo L ∧ FirstOf O l ∧ L.map IT.m = buildM [] O ∧ O.length ≤ l.length ∧ w.heap.size ≤ tb ∧ (∀ k, mo = some k → w.heap.size ≤ k) ∧ Below w.heap.size w w'
theorem exec_alloc40 {o : Oper} {r : Operand → Value} {w : World} (ho : o.op = .alloc 36) : (execOp r o).run Try.prog w = .ok (.value (ptr w.heap.size)) (w.alloc (.cells (oc oz).toArray 36)) := by
  unfold execOp
  simp only [ho]
  go_simp
  rfl
theorem exec_store40 {w : World} {o : Oper} {r : Operand → Value} {b off : Nat} {q : OpT} (x y : Operand) (ho : o.op = .store 36 x y) (hx : r x = .pointer (some ⟨b, off, none⟩)) (hy : r y = ov q) (ht : w.there b off 10) : (execOp r o).run Try.prog w = .ok .skip (w.setCells b off (oc q)) := exec_store26 x y ho hx hy ht
theorem op_put {w0 w w3 w4 : World} {g : Nat} {q : OpT} (hb : Below w0.heap.size w0 w) (h3 : w3 = w.alloc (.cells (oc oz).toArray 36)) (hg : g = w.heap.size) (h4 : w4 = w3.setCells g 0 (oc q)) : Opb w4 g q ∧ Below w0.heap.size w0 w4 ∧ Below w.heap.size w w4 ∧ w3.there g 0 10 := by
  subst h3 hg h4
  have h1 : Blk (w.alloc (.cells (oc oz).toArray 36)) w.heap.size 36 (oc oz) := blk_new w (oc oz) 36
  have h2 := Blk.setCells h1 0 (oc q) (by rw [oc_len, oc_len]; omega)
  rw [splice_all _ _ (by rw [oc_len, oc_len])] at h2
  exact ⟨h2, below_put (balloc hb _) hb.size, below_put (balloc (Below.refl _ _) _) (Nat.le_refl _), h1.there 0 10 (by rw [oc_len]; omega)⟩
set_option maxHeartbeats 8000000 in
theorem build27 {w : World} {v : Value} {l : List OpT} (hv : RowF oc w v l) (hl : l.length ≤ 60) (hq : ∀ q ∈ l, Rd w q.v q.b ∧ q.b.length ≤ 1000) : Calls Try.prog 17 #[v] w (BuildAns w l) := by
  obtain ⟨w1, hw1⟩ : ∃ w1, w1 = w.alloc (.cells #[.map none] 84) := ⟨_, rfl⟩
  obtain ⟨tb, htb⟩ : ∃ tb, tb = w.heap.size := ⟨_, rfl⟩
  have HB1 : Hid (Below w.heap.size w w1) := by show Below _ _ _; rw [hw1]; exact balloc (Below.refl _ _) _
  have HP1 : Hid (PTr w1 tb none []) := by show PTr _ _ _ _; rw [hw1, htb]; exact ptr_new w
  have HTB : Hid (w.heap.size ≤ tb) := by show _ ≤ _; omega
  have HNw : Hid (Calls Try.prog 28 #[] w fun e w' => e = .returned (ptr tb) ∧ w' = w1) := by
    have := new10 w
    rwa [← hw1, ← htb] at this
  have HSo : Hid (Calls Try.prog 41 #[v] w1 fun e w' => ∃ v' l' z, e = .returned v' ∧ Srtd l w' v' l' z ∧ Below w1.heap.size w1 w') := sort21 (hv.below HB1.out) (by omega) fun q h => ⟨(hq q h).1.below HB1.out, by have := (hq q h).2; omega⟩
  have HQ : Hid (∀ q ∈ l, Rd w q.v q.b ∧ q.b.length ≤ 1000) := hq
  have HL : Hid (l.length ≤ 60) := hl
  clear hv hl hq hw1 htb
  go_enter Try.func17, Try.ntmps17
  go_upto_region 2 with (go_at_call 28; go_must (refine HNw.out.mono ?_; rintro e w2 ⟨rfl, hw⟩; replace hw := hw.symm; subst hw))
  have tk1 : Hid True := trivial
  go_wp2_with (go_at_call 41; go_must (clear tk1; refine HSo.out.mono ?_; rintro e w2 ⟨v', l', z, rfl, hso, hb2⟩; have HS : Hid (Srtd l w2 v' l' z) := hso; have HB2 : Hid (Below w1.heap.size w1 w2) := hb2; clear hb2; obtain ⟨a', c', rfl⟩ := hso.row.len; have hcap := hso.row.caps; clear hso))
  have HFl : Hid (l'.length ≤ 60 ∧ (∀ q ∈ l', Okv q ∧ q.b.length ≤ 1000) ∧ FirstOf (firstsO z) l ∧ (∀ q ∈ firstsO z, Okv q) ∧ (firstsO z).length ≤ l.length) := by
    have h1 := HS.out
    have h2 := congrArg List.length h1.alike
    rw [List.length_map, List.length_map] at h2
    have h3 := firsts_len z
    have h4 := HL.out
    have h5 := h1.len
    have h6 := firstOf_srt h1.srt h1.keep
    have h7 : ∀ q ∈ firstsO z, q ∈ l := fun q hq => h6.mem hq
    refine ⟨by omega, fun q hq => ⟨okv_of (h1.rd q hq), ?_⟩, h6, fun q hq => okv_of (HQ.out q (h7 q hq)).1, by omega⟩
    obtain ⟨r, hr, e⟩ := bare_mem h1.alike hq
    have e2 : q.b = r.b := by have := congrArg (fun x : OpT => x.b) e; exact this
    rw [e2]
    exact (HQ.out r (h7 r hr)).2
  obtain ⟨N, hN⟩ : ∃ N, N = l'.length := ⟨_, rfl⟩
  have HN : Hid (N = l'.length) := hN
  rw [← hN] at hcap ⊢
  have HRow2 : Hid (RowF oc w2 (.slice a' N c') l') := by show RowF _ _ _ _; rw [HN.out]; exact HS.out.row
  clear hN
  go_loopw [10] (fun i wr => ∃ (k : Nat) (mo : Option Nat) (L : List IT), i = .int .i64 (k : Int) ∧ k ≤ N ∧ Hid (PTr wr tb mo L) ∧ Hid (L.map IT.m = buildM [] (l'.take k)) ∧ Hid (RowF oc wr (.slice a' N c') l') ∧ Hid (∀ q ∈ l', Rd wr q.v q.b) ∧ Hid (Below w.heap.size w wr ∧ ∀ k, mo = some k → w.heap.size ≤ k)) (fun i _ => N - (intOf i).toNat)
  case atStart => exact ⟨0, none, [], rfl, Nat.zero_le _, HP1.out.below HB2.out, rfl, HRow2, HS.out.rd, bnext HB1.out HB2.out, fun k hk => by cases hk⟩
  case round =>
    obtain ⟨k, mo, L, rfl, hk, HP, HM, HRow, HRd, HB⟩ := hrel
    clear HP1 HRow2
    rename World => wr
    by_cases hlt : k < N
    · have hkI : (k : Int) < (N : Int) := by omega
      obtain ⟨q, hq⟩ : ∃ q, l'[k]? = some q := ⟨_, List.getElem?_eq_getElem (by have := HN.out; omega)⟩
      have HTA : Hid (l'.take (k + 1) = l'.take k ++ [q]) := take_more' hq
      have HMem : Hid (q ∈ l') := List.mem_of_getElem? hq
      obtain ⟨b1, o1, rfl, hc⟩ := HRow.out.at oc_len hq
      have HC : Hid (wr.rangeAt b1 (o1 + k * 10) (oc q)) := hc
      obtain ⟨w3, hw3⟩ : ∃ w3, w3 = wr.alloc (.cells (oc oz).toArray 36) := ⟨_, rfl⟩
      obtain ⟨g, hg⟩ : ∃ g, g = wr.heap.size := ⟨_, rfl⟩
      obtain ⟨w4, hw4⟩ : ∃ w4, w4 = w3.setCells g 0 (oc q) := ⟨_, rfl⟩
      obtain ⟨j1, j2, j3, j4⟩ := op_put HB.out.1 hw3 hg hw4
      have HT3 : Hid (w3.there g 0 10) := j4
      have HI4 : Hid (w4.rangeAt g 0 (oc q)) := Blk.range0 j1
      have HB4 : Hid (Below wr.heap.size wr w4) := j3
      have HBw4 : Hid (Below w.heap.size w w4) := j2
      have HW3 : Hid (w3 = wr.alloc (.cells (oc oz).toArray 36)) := hw3
      have HGG : Hid (g = wr.heap.size) := hg
      have HW4 : Hid (w4 = w3.setCells g 0 (oc q)) := hw4
      have HP4 : Hid (PTr w4 tb mo L) := HP.out.below HB4.out
      have hlen : L.length ≤ 60 := by
        have h1 := congrArg List.length HM.out
        have h2 := buildM_len (l'.take k) []
        have h3 := HFl.out.1
        rw [List.length_map] at h1
        rw [List.length_take, List.length_nil] at h2
        omega
      have hgd : Gd (L.map IT.m) := by
        rw [HM.out]
        refine Gd.build gd_nil ?_
        have h3 := HFl.out.1
        rw [List.length_take, List.length_nil]
        omega
      have HDo : Hid (Calls Try.prog 25 #[ptr tb, ov q] w4 fun e w' => ∃ x b k, e = .returned (.tuple #[iv x, .bool b, .int .i64 k]) ∧ DoAns w4 tb mo L q x b k w') := do11 HP4.out (by omega) hgd q ((HRd.out q HMem.out).below HB4.out) (HFl.out.2.1 q HMem.out).2
      have HRow4 : Hid (RowF oc w4 (.slice (some ⟨b1, o1, none⟩) N c') l') := HRow.out.below HB4.out
      have HRd4 : Hid (∀ q ∈ l', Rd w4 q.v q.b) := fun q hq => (HRd.out q hq).below HB4.out
      clear hq hc hw3 hg hw4 j1 j2 j3 j4 hlen hgd
      have tk2 : Hid True := trivial
      have tk3 : Hid True := trivial
      have tk4 : Hid True := trivial
      have tk5 : Hid True := trivial
      go_wp2_with (first
        | (clear tk2; refine wpList_okw rfl (exec_load40 (q := q) (.tmp 12) rfl rfl HC.out) ?_)
        | (clear tk3; refine wpList_okw rfl (exec_alloc40 rfl) ?_; rw [← HW3.out, ← HGG.out])
        | (clear tk4; refine wpList_skipw rfl (exec_store40 (q := q) (.tmp 5) (.tmp 13) rfl rfl rfl HT3.out) ?_; rw [← HW4.out])
        | (clear tk5; refine wpList_okw rfl (exec_load40 (q := q) (.tmp 5) rfl rfl HI4.out) ?_)
        | (go_at_call 25; go_must (refine HDo.out.mono ?_; rintro e w5 ⟨x, b, kk, rfl, hans⟩; have HA : Hid (DoAns w4 tb mo L q x b kk w5) := hans; clear hans)))
      obtain ⟨mo', L', hp5, hm5, ht5⟩ := HA.out.tree
      have h9 := ht5.below HBw4.out HTB.out HB.out.2
      go_roundw
      case rel => exact ⟨k + 1, mo', L', by go_num, by omega, hp5, by show _ = _; rw [hm5, HTA.out, build_snoc, HM.out], ht5.rowF HP4.out oc_head HRow4.out, fun q hq => ht5.rd HP4.out (HRd4.out q hq), h9⟩
      case measure => simp [intOf]; omega
    · have hkI : ¬ (k : Int) < (N : Int) := by omega
      have HTk : Hid (l'.take k = l') := List.take_of_length_le (by have := HN.out; omega)
      go_wp2
      go_ret
      refine ⟨tb, mo, L, firstsO z, rfl, HP.out, HFl.out.2.2.1, ?_, HFl.out.2.2.2.2, HTB.out, HB.out.2, HB.out.1⟩
      rw [HM.out, HTk.out]
      exact build_bare HS.out.alike (fun q hq => (HFl.out.2.1 q hq).1) HFl.out.2.2.2.1
end
end Go.Proofs.Ythnjbjlhfohpfaa
