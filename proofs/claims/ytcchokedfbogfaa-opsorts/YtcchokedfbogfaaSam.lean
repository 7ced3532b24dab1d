/-
  Operations that are alike.
-/
import Derived.Test.YtcchokedfbogfaaOpM
namespace Go.Proofs.Ytcchokedfbogfaa
set_option linter.unusedVariables false
set_option linter.unusedSimpArgs false
set_option synthInstance.maxSize 20000
set_option maxHeartbeats 2000000
set_option maxRecDepth 20000
open Go.RowKit Go.Maps

def sameO (q r : OpT) : Bool := decide (q.k = r.k ∧ q.a = r.a ∧ q.n = r.n ∧ q.p = r.p ∧ q.d = r.d ∧ q.s.toList = r.s.toList ∧ q.b = r.b)
theorem same23 {q r : OpT} {w : World} (hq : Rd w q.v q.b) (hr : Rd w r.v r.b) : Calls Try.prog 23 #[ov q, ov r] w fun e w' => e = .returned (.bool (sameO q r)) ∧ Below w.heap.size w w' := by
  have HE : Hid (∀ w', Below w.heap.size w w' → Calls Try.prog 54 #[q.v, r.v] w' fun e w'' => e = .returned (.bool (decide (q.b = r.b))) ∧ w'' = w') := fun w' h => equal_any q.v r.v q.b r.b w' (hq.below h) (hr.below h)
  have HQ : Hid (sameO q r = decide (q.k = r.k ∧ q.a = r.a ∧ q.n = r.n ∧ q.p = r.p ∧ q.d = r.d ∧ q.s.toList = r.s.toList ∧ q.b = r.b)) := (rfl : sameO q r = _)
  generalize sameO q r = SO at HQ ⊢
  clear hq hr
  obtain ⟨k, ⟨a1, a2⟩, ⟨n1, n2⟩, ⟨p1, p2⟩, d, s, va, vn, vc, b⟩ := q
  obtain ⟨k', ⟨a1', a2'⟩, ⟨n1', n2'⟩, ⟨p1', p2'⟩, d', s', va', vn', vc', b'⟩ := r
  unfold OpT.v at HE
  unfold ov oc
  dsimp only at HE HQ ⊢
  have HB0 : Hid (Below w.heap.size w ((w.alloc (.cells #[.int .i64 k, .int .i64 a1, .int .i64 a2, .int .i64 n1, .int .i64 n2, .int .i64 p1, .int .i64 p2, .bool d, .string s, .slice va vn vc] 26)).alloc (.cells #[.int .i64 k', .int .i64 a1', .int .i64 a2', .int .i64 n1', .int .i64 n2', .int .i64 p1', .int .i64 p2', .bool d', .string s', .slice va' vn' vc'] 26))) := (show Below _ _ _ from balloc (balloc (Below.refl _ _) _) _)
  by_cases h_k : k = k'
  rotate_left
  · have e_k : (k == k') = false := by simp [h_k]
    have HF : Hid (SO = false) := by show _ = _; rw [HQ.out]; simp [h_k]
    clear HE HQ
    go_enter Try.func23, Try.ntmps23
    go_wp2
    go_ret
    exact ⟨by rw [HF.out]; rfl, HB0.out⟩
  subst h_k
  by_cases h_a1 : a1 = a1'
  rotate_left
  · have e_a1 : (a1 == a1') = false := by simp [h_a1]
    have HF : Hid (SO = false) := by show _ = _; rw [HQ.out]; simp [h_a1]
    clear HE HQ
    go_enter Try.func23, Try.ntmps23
    go_wp2
    go_ret
    exact ⟨by rw [HF.out]; rfl, HB0.out⟩
  subst h_a1
  by_cases h_a2 : a2 = a2'
  rotate_left
  · have e_a2 : (a2 == a2') = false := by simp [h_a2]
    have HF : Hid (SO = false) := by show _ = _; rw [HQ.out]; simp [h_a2]
    clear HE HQ
    go_enter Try.func23, Try.ntmps23
    go_wp2
    go_ret
    exact ⟨by rw [HF.out]; rfl, HB0.out⟩
  subst h_a2
  by_cases h_n1 : n1 = n1'
  rotate_left
  · have e_n1 : (n1 == n1') = false := by simp [h_n1]
    have HF : Hid (SO = false) := by show _ = _; rw [HQ.out]; simp [h_n1]
    clear HE HQ
    go_enter Try.func23, Try.ntmps23
    go_wp2
    go_ret
    exact ⟨by rw [HF.out]; rfl, HB0.out⟩
  subst h_n1
  by_cases h_n2 : n2 = n2'
  rotate_left
  · have e_n2 : (n2 == n2') = false := by simp [h_n2]
    have HF : Hid (SO = false) := by show _ = _; rw [HQ.out]; simp [h_n2]
    clear HE HQ
    go_enter Try.func23, Try.ntmps23
    go_wp2
    go_ret
    exact ⟨by rw [HF.out]; rfl, HB0.out⟩
  subst h_n2
  by_cases h_p1 : p1 = p1'
  rotate_left
  · have e_p1 : (p1 == p1') = false := by simp [h_p1]
    have HF : Hid (SO = false) := by show _ = _; rw [HQ.out]; simp [h_p1]
    clear HE HQ
    go_enter Try.func23, Try.ntmps23
    go_wp2
    go_ret
    exact ⟨by rw [HF.out]; rfl, HB0.out⟩
  subst h_p1
  by_cases h_p2 : p2 = p2'
  rotate_left
  · have e_p2 : (p2 == p2') = false := by simp [h_p2]
    have HF : Hid (SO = false) := by show _ = _; rw [HQ.out]; simp [h_p2]
    clear HE HQ
    go_enter Try.func23, Try.ntmps23
    go_wp2
    go_ret
    exact ⟨by rw [HF.out]; rfl, HB0.out⟩
  subst h_p2
  by_cases h_d : d = d'
  rotate_left
  · have HF : Hid (SO = false) := by show _ = _; rw [HQ.out]; simp [h_d]
    have e_d : (d == d') = false := by simp [h_d]
    clear HE HQ
    go_enter Try.func23, Try.ntmps23
    go_wp2
    go_ret
    exact ⟨by rw [HF.out]; rfl, HB0.out⟩
  subst h_d
  by_cases h_s : s.toList = s'.toList
  rotate_left
  · have HF : Hid (SO = false) := by show _ = _; rw [HQ.out]; simp [h_s]
    have e_s : (s.toList == s'.toList) = false := by simp [h_s]
    clear HE HQ
    go_enter Try.func23, Try.ntmps23
    go_wp2
    go_ret
    exact ⟨by rw [HF.out]; rfl, HB0.out⟩
  have e_s : (s.toList == s'.toList) = true := by simp [h_s]
  have HF : Hid (SO = decide (b = b')) := by show _ = _; rw [HQ.out]; simp [h_s]
  generalize decide (b = b') = bb at HE HF
  clear HQ
  go_enter Try.func23, Try.ntmps23
  go_wp2_with (go_at_call 54; go_must (refine (HE.out _ HB0.out).mono ?_; rintro e w2 ⟨rfl, hb2⟩; have HB2 : Hid (Below w.heap.size w w2) := (show Below _ _ _ from by rw [hb2]; exact HB0.out); clear hb2))
  go_ret
  exact ⟨by rw [HF.out]; rfl, HB2.out⟩
theorem rsame19 {q r : OpT} {w : World} (hq : Rd w q.v q.b) (hr : Rd w r.v r.b) : Calls Try.prog 19 #[ov q, ov r] w fun e w' => e = .returned (.bool (sameO q r)) ∧ Below w.heap.size w w' := by
  have HE : Hid (∀ w', Below w.heap.size w w' → Calls Try.prog 18 #[q.v, r.v] w' fun e w'' => e = .returned (.bool (decide (q.b = r.b))) ∧ Below w'.heap.size w' w'') := fun w' h => same_any q.v r.v q.b r.b w' (hq.below h) (hr.below h)
  have HQ : Hid (sameO q r = decide (q.k = r.k ∧ q.a = r.a ∧ q.n = r.n ∧ q.p = r.p ∧ q.d = r.d ∧ q.s.toList = r.s.toList ∧ q.b = r.b)) := (rfl : sameO q r = _)
  generalize sameO q r = SO at HQ ⊢
  clear hq hr
  obtain ⟨k, ⟨a1, a2⟩, ⟨n1, n2⟩, ⟨p1, p2⟩, d, s, va, vn, vc, b⟩ := q
  obtain ⟨k', ⟨a1', a2'⟩, ⟨n1', n2'⟩, ⟨p1', p2'⟩, d', s', va', vn', vc', b'⟩ := r
  unfold OpT.v at HE
  unfold ov oc
  dsimp only at HE HQ ⊢
  have HB0 : Hid (Below w.heap.size w ((w.alloc (.cells #[.int .i64 k, .int .i64 a1, .int .i64 a2, .int .i64 n1, .int .i64 n2, .int .i64 p1, .int .i64 p2, .bool d, .string s, .slice va vn vc] 26)).alloc (.cells #[.int .i64 k', .int .i64 a1', .int .i64 a2', .int .i64 n1', .int .i64 n2', .int .i64 p1', .int .i64 p2', .bool d', .string s', .slice va' vn' vc'] 26))) := (show Below _ _ _ from balloc (balloc (Below.refl _ _) _) _)
  by_cases h_k : k = k'
  rotate_left
  · have e_k : (k == k') = false := by simp [h_k]
    have HF : Hid (SO = false) := by show _ = _; rw [HQ.out]; simp [h_k]
    clear HE HQ
    go_enter Try.func19, Try.ntmps19
    go_wp2
    go_ret
    exact ⟨by rw [HF.out]; rfl, HB0.out⟩
  subst h_k
  by_cases h_a1 : a1 = a1'
  rotate_left
  · have e_a1 : (a1 == a1') = false := by simp [h_a1]
    have HF : Hid (SO = false) := by show _ = _; rw [HQ.out]; simp [h_a1]
    clear HE HQ
    go_enter Try.func19, Try.ntmps19
    go_wp2
    go_ret
    exact ⟨by rw [HF.out]; rfl, HB0.out⟩
  subst h_a1
  by_cases h_a2 : a2 = a2'
  rotate_left
  · have e_a2 : (a2 == a2') = false := by simp [h_a2]
    have HF : Hid (SO = false) := by show _ = _; rw [HQ.out]; simp [h_a2]
    clear HE HQ
    go_enter Try.func19, Try.ntmps19
    go_wp2
    go_ret
    exact ⟨by rw [HF.out]; rfl, HB0.out⟩
  subst h_a2
  by_cases h_n1 : n1 = n1'
  rotate_left
  · have e_n1 : (n1 == n1') = false := by simp [h_n1]
    have HF : Hid (SO = false) := by show _ = _; rw [HQ.out]; simp [h_n1]
    clear HE HQ
    go_enter Try.func19, Try.ntmps19
    go_wp2
    go_ret
    exact ⟨by rw [HF.out]; rfl, HB0.out⟩
  subst h_n1
  by_cases h_n2 : n2 = n2'
  rotate_left
  · have e_n2 : (n2 == n2') = false := by simp [h_n2]
    have HF : Hid (SO = false) := by show _ = _; rw [HQ.out]; simp [h_n2]
    clear HE HQ
    go_enter Try.func19, Try.ntmps19
    go_wp2
    go_ret
    exact ⟨by rw [HF.out]; rfl, HB0.out⟩
  subst h_n2
  by_cases h_p1 : p1 = p1'
  rotate_left
  · have e_p1 : (p1 == p1') = false := by simp [h_p1]
    have HF : Hid (SO = false) := by show _ = _; rw [HQ.out]; simp [h_p1]
    clear HE HQ
    go_enter Try.func19, Try.ntmps19
    go_wp2
    go_ret
    exact ⟨by rw [HF.out]; rfl, HB0.out⟩
  subst h_p1
  by_cases h_p2 : p2 = p2'
  rotate_left
  · have e_p2 : (p2 == p2') = false := by simp [h_p2]
    have HF : Hid (SO = false) := by show _ = _; rw [HQ.out]; simp [h_p2]
    clear HE HQ
    go_enter Try.func19, Try.ntmps19
    go_wp2
    go_ret
    exact ⟨by rw [HF.out]; rfl, HB0.out⟩
  subst h_p2
  by_cases h_d : d = d'
  rotate_left
  · have HF : Hid (SO = false) := by show _ = _; rw [HQ.out]; simp [h_d]
    have e_d : (d == d') = false := by simp [h_d]
    clear HE HQ
    go_enter Try.func19, Try.ntmps19
    go_wp2
    go_ret
    exact ⟨by rw [HF.out]; rfl, HB0.out⟩
  subst h_d
  by_cases h_s : s.toList = s'.toList
  rotate_left
  · have HF : Hid (SO = false) := by show _ = _; rw [HQ.out]; simp [h_s]
    have e_s : (s.toList == s'.toList) = false := by simp [h_s]
    clear HE HQ
    go_enter Try.func19, Try.ntmps19
    go_wp2
    go_ret
    exact ⟨by rw [HF.out]; rfl, HB0.out⟩
  have e_s : (s.toList == s'.toList) = true := by simp [h_s]
  have HF : Hid (SO = decide (b = b')) := by show _ = _; rw [HQ.out]; simp [h_s]
  generalize decide (b = b') = bb at HE HF
  clear HQ
  go_enter Try.func19, Try.ntmps19
  go_wp2_with (go_at_call 18; go_must (refine (HE.out _ HB0.out).mono ?_; rintro e w2 ⟨rfl, hb2⟩; have HB2 : Hid (Below w.heap.size w w2) := bnext HB0.out hb2; clear hb2))
  go_ret
  exact ⟨by rw [HF.out]; rfl, HB2.out⟩
end Go.Proofs.Ytcchokedfbogfaa
