/-
  A row's one cell; few operations, and none.
  The operations of a list in order, of each time the first.
  Operations that are alike.
  Two lists of operations that are alike.
  What Sort answers, by lists.
  Of each time the first, told by filters.
-/
import Derived.Test.YtjlpdoomchkfgaaCmW
import Derived.Test.YtjlpdoomchkfgaaStb
import Derived.Test.YtjlpdoomchkfgaaRow
namespace Go.Proofs.Ytjlpdoomchkfgaa
section
set_option linter.unusedVariables false
set_option linter.unusedSimpArgs false
set_option synthInstance.maxSize 20000
set_option maxHeartbeats 2000000
set_option maxRecDepth 20000
open Go.RowKit Go.Maps

theorem oc_set9 (x : OpT) (a : Option Addr) (n c : Nat) (b : List Int) : (oc x).set 9 (.slice a n c) = oc ⟨x.k, x.a, x.n, x.p, x.d, x.s, a, n, c, b⟩ := rfl
theorem flat_set9 (p s : List OpT) (x y : OpT) (v : Value) (h : (oc x).set 9 v = oc y) : (flat oc (p ++ x :: s)).set (p.length * 10 + 9) v = flat oc (p ++ y :: s) := by
  have h1 : (flat oc p).length = p.length * 10 := flat_length oc_len _
  have e : ∀ z, flat oc (p ++ z :: s) = flat oc p ++ (oc z ++ flat oc s) := fun z => by rw [flat_append]; rfl
  rw [e, e, List.set_append_right _ _ (by omega), h1, Nat.add_sub_cancel_left, List.set_append_left _ _ (by rw [oc_len]; omega), h]
/-- The content of one operation of a row is stored. -/
theorem Row.put9 {w : World} {g N cap : Nat} {p s : List OpT} {x y : OpT} {v : Value} (h : Row w g N cap (p ++ x :: s)) (hv : (oc x).set 9 v = oc y) : Row (w.setCell ⟨g, p.length * 10 + 9, none⟩ v) g N cap (p ++ y :: s) := by
  obtain ⟨hl, hx, hh⟩ := h
  rcases hh with ⟨e, _⟩ | ⟨g', cap', cur, e, h3, h4, h5, h6, h7, h8⟩
  · cases e
  · cases e
    have hb : Blk w g 40 cur.toList := by unfold Blk; simpa using h4
    have q1 := hb.set (p.length * 10 + 9) v
    have hlp : p.length + 1 + s.length = N := by simp at hl; omega
    refine ⟨by simpa using hl, ?_, .inr ⟨g, cap, _, rfl, Nat.zero_le _, q1, h5, h6, by simpa using h7, ?_⟩⟩
    · rw [flat_length oc_len]; simp at hl ⊢; omega
    · rw [List.toList_toArray, List.take_set, h8, flat_set9 p s x y v hv]
theorem compact51_few {w : World} {g N cap : Nat} (hN : N < 2) : Calls Try.prog 70 #[.slice (some ⟨g, 0, none⟩) N cap, .func (.func 71) #[] #[]] w fun e w' => e = .returned (.slice (some ⟨g, 0, none⟩) N cap) ∧ w' = w := by
  have hNI : (N : Int) < 2 := by omega
  go_enter Try.func70, Try.ntmps70
  go_wp2
  go_ret
  exact ⟨rfl, rfl⟩
theorem compact51_nil (w : World) : Calls Try.prog 70 #[.slice none 0 0, .func (.func 71) #[] #[]] w fun e w' => e = .returned (.slice none 0 0) ∧ w' = w := by
  go_enter Try.func70, Try.ntmps70
  go_wp2
  go_ret
  exact ⟨rfl, rfl⟩
theorem firstsO_few {l : List OpT} (h : l.length < 2) : firstsO l = l := by
  match l, h with
  | [], _ => rfl
  | [x], _ => rfl
  | x :: y :: r, h => simp at h; omega
theorem compact51_any {w : World} {g N cap : Nat} {l : List OpT} (hr : Row w g N cap l) (hN2 : N ≤ 1000000) :
    Calls Try.prog 70 #[.slice (some ⟨g, 0, none⟩) N cap, .func (.func 71) #[] #[]] w fun e w' => ∃ n, e = .returned (.slice (some ⟨g, 0, none⟩) n cap) ∧ n = (firstsO l).length ∧ Row w' g n cap (firstsO l) ∧ w.grownBy w' (some g) := by
  by_cases h : 2 ≤ N
  · exact compact51 hr hN2 h
  · refine (compact51_few (by omega)).mono ?_
    rintro e w' ⟨rfl, rfl⟩
    have hl := hr.1
    rw [firstsO_few (by omega)]
    exact ⟨N, rfl, hl.symm, hr, grown_refl _ _⟩
end

section
set_option linter.unusedVariables false
set_option linter.unusedSimpArgs false
set_option synthInstance.maxSize 20000
set_option maxHeartbeats 2000000
set_option maxRecDepth 20000
open Go.RowKit Go.Maps

/-- An operation but for where its content lies. -/
def bare (q : OpT) : OpT := ⟨q.k, q.a, q.n, q.p, q.d, q.s, none, 0, 0, q.b⟩
theorem own_ne {B e g : Nat} {w : World} {v : Value} {l : List Int} (h : Own B e w v l) (hg : g < B) : v.ownBlock ≠ some g := fun hk => by
  obtain ⟨_, _, hh⟩ := h
  rcases hh with ⟨e, _⟩ | ⟨g', cap', cur, e, h3, _⟩
  · rw [e] at hk; cases hk
  · rw [e] at hk
    have e2 : g' = g := by simpa [Value.ownBlock] using hk
    omega
theorem keep_mem {l z : List OpT} {q : OpT} (h : Keep l z) (hq : q ∈ z) : q ∈ l := by
  have h1 : q ∈ z.filter (atK q.a) := List.mem_filter.2 ⟨hq, by simp [atK]⟩
  rw [h q.a] at h1
  exact (List.mem_filter.1 h1).1
theorem clone48v {w : World} {v : Value} {l : List OpT} (hv : RowF oc w v l) (hfew : l.length ≤ 100000) :
    Calls Try.prog 67 #[v] w fun r w' => ∃ v1, r = .returned v1 ∧ Hid ((l = [] ∧ v1 = .slice none 0 0) ∨ ∃ g cap, v1 = .slice (some ⟨g, 0, none⟩) l.length cap ∧ w.heap.size ≤ g ∧ Row w' g l.length cap l) ∧ Below w.heap.size w w' := by
  refine (clone48 hv hfew).mono ?_
  rintro r w' ⟨h | ⟨g, cap, h1, h2, h3⟩, hb⟩
  · exact ⟨_, h.2, .inl ⟨h.1, rfl⟩, hb⟩
  · exact ⟨_, h1, .inr ⟨g, cap, rfl, h2, h3⟩, hb⟩
/-- What Sort answers. -/
structure Srtd (l : List OpT) (w' : World) (v' : Value) (l' z : List OpT) : Prop where
  srt : SrtO z
  keep : Keep l z
  len : z.length = l.length
  alike : l'.map bare = (firstsO z).map bare
  row : RowF oc w' v' l'
  rd : ∀ q ∈ l', Rd w' q.v q.b
set_option maxHeartbeats 4000000 in
theorem sort21 {w : World} {v : Value} {l : List OpT} (hv : RowF oc w v l) (hl : l.length ≤ 1000) (hq : ∀ q ∈ l, Rd w q.v q.b ∧ q.b.length ≤ 1000000) :
    Calls Try.prog 51 #[v] w fun e w' => ∃ v' l' z, e = .returned v' ∧ Srtd l w' v' l' z ∧ Below w.heap.size w w' := by
  have HC : Hid (Calls Try.prog 67 #[v] w fun r w' => ∃ v1, r = .returned v1 ∧ Hid ((l = [] ∧ v1 = .slice none 0 0) ∨ ∃ g cap, v1 = .slice (some ⟨g, 0, none⟩) l.length cap ∧ w.heap.size ≤ g ∧ Row w' g l.length cap l) ∧ Below w.heap.size w w') := clone48v hv (by omega)
  have HQ : Hid (∀ q ∈ l, Rd w q.v q.b ∧ q.b.length ≤ 1000000) := hq
  have HL : Hid (l.length ≤ 1000) := hl
  clear hq hl hv
  go_enter Try.func51, Try.ntmps51
  go_upto_region 2 with (go_at_call 67; go_must (refine HC.out.mono ?_; rintro r w1 ⟨v1, rfl, HV1, hb1⟩; have HB1 : Hid (Below w.heap.size w w1) := hb1; clear hb1))
  rcases HV1.out with ⟨hl0, rfl⟩ | ⟨g, cap, rfl, hg, hR⟩
  · clear HV1
    go_wp2_with (first
      | (go_at_call 68; go_must (refine (sortStable49_nil _ _).mono ?_; rintro r w2 ⟨rfl, hw2⟩; replace hw2 := hw2.symm; subst hw2))
      | (go_at_call 70; go_must (refine (compact51_nil _).mono ?_; rintro r w2 ⟨rfl, hw2⟩; replace hw2 := hw2.symm; subst hw2)))
    go_loopw [13] (fun i wr => i = .int .i64 0 ∧ Hid (wr = w1)) (fun i _ => 0)
    case atStart => exact ⟨rfl, rfl⟩
    case round =>
      obtain ⟨rfl, HW⟩ := hrel
      go_wp2
      go_ret
      refine ⟨_, [], [], rfl, ⟨?_, ?_, by rw [hl0], rfl, rowF_nil _, fun q hq => by cases hq⟩, ?_⟩
      · simp [SrtO]
      · rw [hl0]; intro c; rfl
      · rw [HW.out]; exact HB1.out
  · clear HV1
    have HG : Hid (w.heap.size ≤ g) := hg
    have HS : Hid (Calls Try.prog 68 #[.slice (some ⟨g, 0, none⟩) l.length cap, .func (.func 69) #[] #[]] w1 fun e w' => e = .returned (.tuple #[]) ∧ ∃ z, SrtO z ∧ Keep l z ∧ Row w' g l.length cap z ∧ w1.grownBy w' (some g)) := sortStable49 hR (by have := HL.out; omega)
    clear hR hg
    go_upto_region 3 with (go_at_call 68; go_must (refine HS.out.mono ?_; rintro r w2 ⟨rfl, z, hz1, hz2, hz3, hg2⟩))
    have HZ1 : Hid (SrtO z) := hz1
    have HZ2 : Hid (Keep l z) := hz2
    have HZL : Hid (z.length = l.length) := hz3.1
    have HB2 : Hid (Below w.heap.size w w2) := bgrown HB1.out HG.out hg2
    have HCm : Hid (Calls Try.prog 70 #[.slice (some ⟨g, 0, none⟩) l.length cap, .func (.func 71) #[] #[]] w2 fun e w' => ∃ n, e = .returned (.slice (some ⟨g, 0, none⟩) n cap) ∧ n = (firstsO z).length ∧ Row w' g n cap (firstsO z) ∧ w2.grownBy w' (some g)) := compact51_any hz3 (by have := HL.out; omega)
    have HM : Hid (∀ q ∈ firstsO z, q ∈ l) := fun q hq => keep_mem hz2 (firstsO_mem z q hq)
    clear hz1 hz2 hz3 hg2 HS
    go_upto_region 4 with (go_at_call 70; go_must (refine HCm.out.mono ?_; rintro r w3 ⟨n, rfl, hn, hr3, hg3⟩; have HN : Hid (n = (firstsO z).length) := hn; have HR3 : Hid (Row w3 g n cap (firstsO z)) := hr3; have HG3 : Hid (w2.grownBy w3 (some g)) := hg3; clear hn hr3 hg3))
    have hn1000 : n ≤ cap := HR3.out.caps.1
    have hcap := HR3.out.caps.2
    have HB3 : Hid (Below w.heap.size w w3) := bgrown HB2.out HG.out HG3.out
    clear HG3 HCm HC
    generalize hf : firstsO z = f at HN HR3 HM
    have HF : Hid (firstsO z = f) := hf
    clear hf
    go_wp2
    go_loopw [13] (fun i wr => ∃ (m : Nat) (u0 u r : List OpT), i = .int .i64 (m : Int) ∧ m ≤ n ∧ Hid (u.length = m) ∧ Hid (f = u0 ++ r) ∧ Hid (u.map bare = u0.map bare) ∧ Hid (∀ q ∈ u, Rd wr q.v q.b ∧ q.v.ownBlock ≠ some g) ∧ Hid (Row wr g n cap (u ++ r)) ∧ Hid (Below w.heap.size w wr)) (fun i _ => n - (intOf i).toNat)
    case atStart => exact ⟨0, [], [], f, rfl, Nat.zero_le _, rfl, rfl, rfl, (fun q hq => by cases hq), HR3, HB3⟩
    case round =>
      obtain ⟨m, u0, u, r, rfl, hmn, HU, HFr, HA, HUR, HRw, HBw⟩ := hrel
      rename World => wq
      clear HR3 HB3
      by_cases hk : m < n
      · obtain ⟨x, r, rfl⟩ : ∃ x r2, r = x :: r2 := by
          cases r with
          | nil => have h1 := HRw.out.1; have h2 := HU.out; simp at h1; omega
          | cons x r2 => exact ⟨x, r2, rfl⟩
        have hkI : (m : Int) < (n : Int) := by omega
        have hx : (u ++ x :: r)[m]? = some x := by rw [← HU.out]; exact get_mid _ _ _
        have hxl : x ∈ l := HM.out x (by rw [HFr.out]; simp)
        have hxq := HQ.out x hxl
        have c9 : wq.cell? ⟨g, m * 10 + 9, none⟩ = some x.v := (HRw.out.load hx) 9 x.v rfl
        have HBC : Hid (Calls Try.prog 66 #[x.v] wq fun e w' => ∃ v', e = .returned v' ∧ Own wq.heap.size 5 w' v' x.b ∧ Below wq.heap.size wq w') := bclone_any x.v x.b wq (hxq.1.below HBw.out) hxq.2
        obtain ⟨xk, xa, xn, xp, xd, xs, xva, xvn, xvc, xb⟩ := x
        unfold OpT.v at c9 HBC
        dsimp only at c9 HBC
        clear hx hxl hxq
        have hmn' : m + 1 ≤ n := hk
        go_wp2_with (go_at_call 66; go_must (refine HBC.out.mono ?_; rintro r4 w4 ⟨v4, rfl, ho4, hb4⟩; have HO4 : Hid (Own wq.heap.size 5 w4 v4 xb) := ho4; have HB4 : Hid (Below wq.heap.size wq w4) := hb4; obtain ⟨a4, k4, hv4⟩ := ho4.rd.len; subst hv4; have R4 : Row w4 g n cap (u ++ ⟨xk, xa, xn, xp, xd, xs, xva, xvn, xvc, xb⟩ :: r) := HRw.out.below hb4; have HR4 : Hid (Row w4 g n cap (u ++ ⟨xk, xa, xn, xp, xd, xs, xva, xvn, xvc, xb⟩ :: r)) := R4; have c94 : w4.cell? ⟨g, m * 10 + 9, none⟩ = some (.slice xva xvn xvc) := (R4.load (i := m) (by rw [← HU.out]; exact get_mid _ _ _)) 9 _ rfl; have f94 := R4.2.frozenAt (m * 10 + 9); clear ho4 hb4 R4 c9 HBC))
        go_roundw
        case rel =>
          have hgl : g < wq.heap.size := HRw.out.lt
          have hgs : w4.grownBy (w4.setCell ⟨g, m * 10 + 9, none⟩ (.slice a4 xb.length k4)) (some g) := grown_setCell _ _ _ _
          refine ⟨m + 1, u0 ++ [⟨xk, xa, xn, xp, xd, xs, xva, xvn, xvc, xb⟩], u ++ [⟨xk, xa, xn, xp, xd, xs, a4, xb.length, k4, xb⟩], r, by go_num, hmn', ?_, ?_, ?_, ?_, ?_, ?_⟩
          · show _ = _
            have := HU.out; simp; omega
          · show _ = _
            rw [HFr.out]; simp
          · show _ = _
            rw [List.map_append, List.map_append, HA.out]; rfl
          · intro q hq
            rcases List.mem_append.1 hq with h | h
            · have h1 := HUR.out q h
              exact ⟨(h1.1.below HB4.out).kept hgs (fun k e => by cases e; exact h1.2), h1.2⟩
            · rw [List.mem_singleton.1 h]
              have h2 := own_ne HO4.out hgl
              exact ⟨HO4.out.rd.kept hgs (fun k e => by cases e; exact h2), h2⟩
          · show Row _ _ _ _ _
            have := HR4.out.put9 (y := ⟨xk, xa, xn, xp, xd, xs, a4, xb.length, k4, xb⟩) (v := .slice a4 xb.length k4) rfl
            rw [HU.out] at this
            simpa using this
          · exact bgrown (bnext HBw.out HB4.out) HG.out hgs
        case measure => simp [intOf]; omega
      · have hmn2 : m = n := by omega
        have hkI : ¬ (m : Int) < (n : Int) := by omega
        have hr0 : r = [] := by
          have h1 := HRw.out.1; have h2 := HU.out
          simp at h1
          exact List.eq_nil_of_length_eq_zero (by omega)
        have HR0 : Hid (r = []) := hr0
        clear hr0
        go_wp2
        go_ret
        refine ⟨_, rfl, ⟨u, z, HZ1.out, HZ2.out, HZL.out, ?_, ?_, fun q hq => (HUR.out q hq).1⟩, HBw.out⟩
        · rw [HA.out, HF.out, HFr.out, HR0.out, List.append_nil]
        · have h := HRw.out
          rw [HR0.out, List.append_nil] at h
          have h1 := h.1
          have h2 := h.2
          rw [← h1] at h2 ⊢
          exact rowF_own oc_len h2
end

section
set_option linter.unusedVariables false
set_option linter.unusedSimpArgs false
set_option synthInstance.maxSize 20000
set_option maxHeartbeats 2000000
set_option maxRecDepth 20000
open Go.RowKit Go.Maps

def sameO (q r : OpT) : Bool := decide (q.k = r.k ∧ q.a = r.a ∧ q.n = r.n ∧ q.p = r.p ∧ q.d = r.d ∧ q.s.toList = r.s.toList ∧ q.b = r.b)
end

section
set_option linter.unusedVariables false
set_option linter.unusedSimpArgs false
set_option synthInstance.maxSize 20000
set_option maxHeartbeats 2000000
set_option maxRecDepth 20000
open Go.RowKit Go.Maps

theorem sameO_bare {q r : OpT} (h : bare q = bare r) : sameO q r = true := by
  obtain ⟨k, a, n, p, d, s, va, vn, vc, b⟩ := q
  obtain ⟨k2, a2, n2, p2, d2, s2, va2, vn2, vc2, b2⟩ := r
  unfold bare at h
  simp only [OpT.mk.injEq, true_and, and_true] at h
  obtain ⟨rfl, rfl, rfl, rfl, rfl, rfl, rfl⟩ := h
  simp [sameO]
end

section
set_option linter.unusedVariables false
set_option linter.unusedSimpArgs false
set_option synthInstance.maxSize 20000
set_option maxHeartbeats 2000000
set_option maxRecDepth 20000
open Go.RowKit Go.Maps

theorem le_ne_lt {a b : S} (h : ¬ ltP b a) (hn : ¬ b = a) : ltP a b := by
  obtain ⟨a1, a2⟩ := a
  obtain ⟨b1, b2⟩ := b
  simp only [Prod.mk.injEq] at hn
  unfold ltP at *
  omega
theorem ddO_str : ∀ (r : List OpT) (p : S), (∀ q ∈ r, ¬ ltP q.a p) → SrtO r → (∀ q ∈ ddO p r, ltP p q.a) ∧ (ddO p r).Pairwise LtO
  | [], p, _, _ => ⟨fun q hq => by simp [ddO] at hq, by simp [ddO]⟩
  | x :: r, p, hp, hs => by
    have hx : ∀ q ∈ r, ¬ ltP q.a x.a := fun q hq => (List.pairwise_cons.1 hs).1 q hq
    have hr : SrtO r := (List.pairwise_cons.1 hs).2
    by_cases e : x.a = p
    · rw [ddO_same e]
      exact ddO_str r p (fun q hq => hp q (List.mem_cons_of_mem _ hq)) hr
    · rw [ddO_other e]
      have ih := ddO_str r x.a hx hr
      have hpx : ltP p x.a := le_ne_lt (hp x List.mem_cons_self) e
      refine ⟨fun q hq => ?_, List.pairwise_cons.2 ⟨ih.1, ih.2⟩⟩
      rcases List.mem_cons.1 hq with h | h
      · rw [h]; exact hpx
      · exact ltP_trans hpx (ih.1 q h)
theorem firsts_str {l : List OpT} (h : SrtO l) : (firstsO l).Pairwise LtO := by
  cases l with
  | nil => simp [firstsO]
  | cons x r =>
    have ih := ddO_str r x.a (fun q hq => (List.pairwise_cons.1 h).1 q hq) (List.pairwise_cons.1 h).2
    exact List.pairwise_cons.2 ⟨ih.1, ih.2⟩
theorem ddO_has : ∀ (r : List OpT) (p : S) (q : OpT), q ∈ r → q.a = p ∨ ∃ s ∈ ddO p r, s.a = q.a
  | [], p, q, h => by cases h
  | x :: r, p, q, h => by
    by_cases e : x.a = p
    · rw [ddO_same e]
      rcases List.mem_cons.1 h with h1 | h1
      · rw [h1]; exact .inl e
      · exact ddO_has r p q h1
    · rw [ddO_other e]
      rcases List.mem_cons.1 h with h1 | h1
      · exact .inr ⟨x, List.mem_cons_self, by rw [h1]⟩
      · rcases ddO_has r x.a q h1 with h2 | ⟨s, h2, h3⟩
        · exact .inr ⟨x, List.mem_cons_self, h2.symm⟩
        · exact .inr ⟨s, List.mem_cons_of_mem _ h2, h3⟩
theorem firsts_has {l : List OpT} {q : OpT} (h : q ∈ l) : ∃ s ∈ firstsO l, s.a = q.a := by
  cases l with
  | nil => cases h
  | cons x r =>
    rcases List.mem_cons.1 h with h1 | h1
    · exact ⟨x, List.mem_cons_self, by rw [h1]⟩
    · rcases ddO_has r x.a q h1 with h2 | ⟨s, h2, h3⟩
      · exact ⟨x, List.mem_cons_self, h2.symm⟩
      · exact ⟨s, List.mem_cons_of_mem _ h2, h3⟩
theorem ddO_id : ∀ (r : List OpT) (p : S), (∀ q ∈ r, ltP p q.a) → r.Pairwise LtO → ddO p r = r
  | [], _, _, _ => rfl
  | x :: r, p, hp, hs => by
    have e : ¬ x.a = p := fun e => ltP_irrefl p (by have := hp x List.mem_cons_self; rwa [e] at this)
    rw [ddO_other e, ddO_id r x.a (List.pairwise_cons.1 hs).1 (List.pairwise_cons.1 hs).2]
theorem firsts_id {l : List OpT} (h : l.Pairwise LtO) : firstsO l = l := by
  cases l with
  | nil => rfl
  | cons x r => rw [firstsO, ddO_id r x.a (List.pairwise_cons.1 h).1 (List.pairwise_cons.1 h).2]
theorem ddO_len : ∀ (r : List OpT) (p : S), (ddO p r).length ≤ r.length
  | [], _ => Nat.le_refl _
  | x :: r, p => by
    by_cases e : x.a = p
    · rw [ddO_same e]; have := ddO_len r p; simp; omega
    · rw [ddO_other e]; have := ddO_len r x.a; simp; omega
theorem firsts_len (l : List OpT) : (firstsO l).length ≤ l.length := by
  cases l with
  | nil => exact Nat.le_refl _
  | cons x r => have := ddO_len r x.a; simp [firstsO]; omega
theorem str_srt {l : List OpT} (h : l.Pairwise LtO) : SrtO l := h.imp fun h1 => lt_le h1
theorem keep_mem2 {l z : List OpT} {q : OpT} (h : Keep l z) (hq : q ∈ l) : q ∈ z := keep_mem (fun c => (h c).symm) hq
theorem alike_a {x y : List OpT} (h : x.map bare = y.map bare) : x.map (fun q => q.a) = y.map (fun q => q.a) := by
  have := congrArg (List.map (fun q : OpT => q.a)) h
  rw [List.map_map, List.map_map] at this
  exact this
section
variable {l l' z : List OpT} {w' : World} {v' : Value}
/-- What Sort answers stands in order, no two of one time. -/
theorem Srtd.str (h : Srtd l w' v' l' z) : l'.Pairwise LtO := by
  have h1 : ((firstsO z).map (fun q => q.a)).Pairwise ltP := List.pairwise_map.2 (firsts_str h.srt)
  rw [← alike_a h.alike] at h1
  exact (List.pairwise_map (f := fun q : OpT => q.a)).1 h1
theorem Srtd.few (h : Srtd l w' v' l' z) : l'.length ≤ l.length := by
  have h1 := congrArg List.length h.alike
  simp only [List.length_map] at h1
  have := firsts_len z
  have := h.len
  omega
theorem Srtd.has (h : Srtd l w' v' l' z) {q : OpT} (hq : q ∈ l) : ∃ s ∈ l', s.a = q.a := by
  obtain ⟨s, h1, h2⟩ := firsts_has (keep_mem2 h.keep hq)
  have h3 : s.a ∈ (firstsO z).map (fun q => q.a) := List.mem_map.2 ⟨s, h1, rfl⟩
  rw [← alike_a h.alike] at h3
  obtain ⟨t, h4, h5⟩ := List.mem_map.1 h3
  exact ⟨t, h4, h5.trans h2⟩
/-- In order again: nothing turns. -/
theorem Srtd.again {l2 z2 : List OpT} {w2 : World} {v2 : Value} (h : Srtd l w' v' l' z) (h2 : Srtd l' w2 v2 l2 z2) : l2.map bare = l'.map bare := by
  have e : l' = z2 := keep_one _ _ (str_srt h.str) h2.srt (fun c => h2.keep c)
  rw [h2.alike, ← e, firsts_id h.str]
end
end

section
set_option linter.unusedVariables false
set_option linter.unusedSimpArgs false
set_option synthInstance.maxSize 20000
set_option maxHeartbeats 2000000
set_option maxRecDepth 20000
open Go.RowKit Go.Maps

theorem ddO_filter : ∀ (r : List OpT) (p : S), (∀ q ∈ r, ¬ ltP q.a p) → SrtO r → ∀ c, (ddO p r).filter (atK c) = if c = p then [] else (r.filter (atK c)).take 1
  | [], p, _, _, c => by simp [ddO]
  | x :: r, p, hp, hs, c => by
    have hx : ∀ q ∈ r, ¬ ltP q.a x.a := fun q hq => (List.pairwise_cons.1 hs).1 q hq
    have hr : SrtO r := (List.pairwise_cons.1 hs).2
    by_cases e : x.a = p
    · rw [ddO_same e, ddO_filter r p (fun q hq => hp q (List.mem_cons_of_mem _ hq)) hr c]
      by_cases h : c = p
      · rw [if_pos h, if_pos h]
      · rw [if_neg h, if_neg h, List.filter_cons_of_neg (by simp only [atK, decide_eq_true_eq]; exact fun h2 => h (h2.symm.trans e))]
    · rw [ddO_other e]
      by_cases h : c = p
      · rw [if_pos h, List.filter_eq_nil_iff]
        intro q hq
        simp only [atK, decide_eq_true_eq]
        intro h2
        have hpx : ltP p x.a := le_ne_lt (hp x List.mem_cons_self) e
        rcases List.mem_cons.1 hq with h1 | h1
        · rw [h1] at h2; exact e (h2.trans h)
        · have h3 := ltP_trans hpx ((ddO_str r x.a hx hr).1 q h1)
          rw [h2, h] at h3
          exact ltP_irrefl _ h3
      · rw [if_neg h]
        by_cases h2 : x.a = c
        · rw [List.filter_cons_of_pos (by simp [atK, h2]), List.filter_cons_of_pos (by simp [atK, h2]), ddO_filter r x.a hx hr c, if_pos h2.symm]
          rfl
        · rw [List.filter_cons_of_neg (by simp [atK, h2]), List.filter_cons_of_neg (by simp [atK, h2]), ddO_filter r x.a hx hr c, if_neg (fun h3 => h2 h3.symm)]
theorem firsts_filter {l : List OpT} (h : SrtO l) (c : S) : (firstsO l).filter (atK c) = (l.filter (atK c)).take 1 := by
  cases l with
  | nil => rfl
  | cons x r =>
    have ih := ddO_filter r x.a (fun q hq => (List.pairwise_cons.1 h).1 q hq) (List.pairwise_cons.1 h).2 c
    show (x :: ddO x.a r).filter (atK c) = _
    by_cases h2 : x.a = c
    · rw [List.filter_cons_of_pos (by simp [atK, h2]), List.filter_cons_of_pos (by simp [atK, h2]), ih, if_pos h2.symm]
      rfl
    · rw [List.filter_cons_of_neg (by simp [atK, h2]), List.filter_cons_of_neg (by simp [atK, h2]), ih, if_neg (fun h3 => h2 h3.symm)]
/-- A list in order that holds of each time the first of l is what Sort answers. -/
theorem firsts_one {l z r : List OpT} (hz : SrtO z) (hk : Keep l z) (hr : r.Pairwise LtO) (hf : ∀ c, r.filter (atK c) = (l.filter (atK c)).take 1) : r = firstsO z :=
  keep_one _ _ (str_srt hr) (str_srt (firsts_str hz)) fun c => by rw [firsts_filter hz, hk c, hf c]
end
end Go.Proofs.Ytjlpdoomchkfgaa
