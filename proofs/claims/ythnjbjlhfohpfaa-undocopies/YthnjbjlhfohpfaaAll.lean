/-
  The operations of a list in order, of each time the first.
  Operations that are alike.
  Two lists of operations that are alike.
-/
import Derived.Test.YthnjbjlhfohpfaaSrA
import Derived.Test.YthnjbjlhfohpfaaLsG
namespace Go.Proofs.Ythnjbjlhfohpfaa
section
set_option linter.unusedVariables false
set_option linter.unusedSimpArgs false
set_option synthInstance.maxSize 20000
set_option maxHeartbeats 2000000
set_option maxRecDepth 20000
open Go.RowKit Go.Maps

/-- An operation but for where its content lies. -/
def bare (q : OpT) : OpT := ⟨q.k, q.a, q.n, q.p, q.d, q.s, none, 0, 0, q.b⟩
theorem own_ne {B e g : Nat} {w : World} {v : Value} {l : List Int} (h : Own B e w v l) (hg : g < B) : v.ownBlock ≠ some g := fun hk => by
  obtain ⟨_, _, hh⟩ := h
  rcases hh with ⟨e, _⟩ | ⟨g', cap', cur, e, h3, _⟩
  · rw [e] at hk; cases hk
  · rw [e] at hk
    have e2 : g' = g := by simpa [Value.ownBlock] using hk
    omega
theorem keep_mem {l z : List OpT} {q : OpT} (h : Keep l z) (hq : q ∈ z) : q ∈ l := by
  have h1 : q ∈ z.filter (atK q.a) := List.mem_filter.2 ⟨hq, by simp [atK]⟩
  rw [h q.a] at h1
  exact (List.mem_filter.1 h1).1
theorem clone48v {w : World} {v : Value} {l : List OpT} (hv : RowF oc w v l) (hfew : l.length ≤ 100000) :
    Calls Try.prog 66 #[v] w fun r w' => ∃ v1, r = .returned v1 ∧ Hid ((l = [] ∧ v1 = .slice none 0 0) ∨ ∃ g cap, v1 = .slice (some ⟨g, 0, none⟩) l.length cap ∧ w.heap.size ≤ g ∧ Row w' g l.length cap l) ∧ Below w.heap.size w w' := by
  refine (clone48 hv hfew).mono ?_
  rintro r w' ⟨h | ⟨g, cap, h1, h2, h3⟩, hb⟩
  · exact ⟨_, h.2, .inl ⟨h.1, rfl⟩, hb⟩
  · exact ⟨_, h1, .inr ⟨g, cap, rfl, h2, h3⟩, hb⟩
/-- What Sort answers. -/
structure Srtd (l : List OpT) (w' : World) (v' : Value) (l' z : List OpT) : Prop where
  srt : SrtO z
  keep : Keep l z
  len : z.length = l.length
  alike : l'.map bare = (firstsO z).map bare
  row : RowF oc w' v' l'
  rd : ∀ q ∈ l', Rd w' q.v q.b
set_option maxHeartbeats 4000000 in
theorem sort21 {w : World} {v : Value} {l : List OpT} (hv : RowF oc w v l) (hl : l.length ≤ 1000) (hq : ∀ q ∈ l, Rd w q.v q.b ∧ q.b.length ≤ 1000000) :
    Calls Try.prog 41 #[v] w fun e w' => ∃ v' l' z, e = .returned v' ∧ Srtd l w' v' l' z ∧ Below w.heap.size w w' := by
  have HC : Hid (Calls Try.prog 66 #[v] w fun r w' => ∃ v1, r = .returned v1 ∧ Hid ((l = [] ∧ v1 = .slice none 0 0) ∨ ∃ g cap, v1 = .slice (some ⟨g, 0, none⟩) l.length cap ∧ w.heap.size ≤ g ∧ Row w' g l.length cap l) ∧ Below w.heap.size w w') := clone48v hv (by omega)
  have HQ : Hid (∀ q ∈ l, Rd w q.v q.b ∧ q.b.length ≤ 1000000) := hq
  have HL : Hid (l.length ≤ 1000) := hl
  clear hq hl hv
  go_enter Try.func41, Try.ntmps41
  go_upto_region 2 with (go_at_call 66; go_must (refine HC.out.mono ?_; rintro r w1 ⟨v1, rfl, HV1, hb1⟩; have HB1 : Hid (Below w.heap.size w w1) := hb1; clear hb1))
  rcases HV1.out with ⟨hl0, rfl⟩ | ⟨g, cap, rfl, hg, hR⟩
  · clear HV1
    go_wp2_with (first
      | (go_at_call 67; go_must (refine (sortStable49_nil _ _).mono ?_; rintro r w2 ⟨rfl, hw2⟩; replace hw2 := hw2.symm; subst hw2))
      | (go_at_call 69; go_must (refine (compact51_nil _).mono ?_; rintro r w2 ⟨rfl, hw2⟩; replace hw2 := hw2.symm; subst hw2)))
    go_loopw [13] (fun i wr => i = .int .i64 0 ∧ Hid (wr = w1)) (fun i _ => 0)
    case atStart => exact ⟨rfl, rfl⟩
    case round =>
      obtain ⟨rfl, HW⟩ := hrel
      go_wp2
      go_ret
      refine ⟨_, [], [], rfl, ⟨?_, ?_, by rw [hl0], rfl, rowF_nil _, fun q hq => by cases hq⟩, ?_⟩
      · simp [SrtO]
      · rw [hl0]; intro c; rfl
      · rw [HW.out]; exact HB1.out
  · clear HV1
    have HG : Hid (w.heap.size ≤ g) := hg
    have HS : Hid (Calls Try.prog 67 #[.slice (some ⟨g, 0, none⟩) l.length cap, .func (.func 68) #[] #[]] w1 fun e w' => e = .returned (.tuple #[]) ∧ ∃ z, SrtO z ∧ Keep l z ∧ Row w' g l.length cap z ∧ w1.grownBy w' (some g)) := sortStable49 hR (by have := HL.out; omega)
    clear hR hg
    go_upto_region 3 with (go_at_call 67; go_must (refine HS.out.mono ?_; rintro r w2 ⟨rfl, z, hz1, hz2, hz3, hg2⟩))
    have HZ1 : Hid (SrtO z) := hz1
    have HZ2 : Hid (Keep l z) := hz2
    have HZL : Hid (z.length = l.length) := hz3.1
    have HB2 : Hid (Below w.heap.size w w2) := bgrown HB1.out HG.out hg2
    have HCm : Hid (Calls Try.prog 69 #[.slice (some ⟨g, 0, none⟩) l.length cap, .func (.func 70) #[] #[]] w2 fun e w' => ∃ n, e = .returned (.slice (some ⟨g, 0, none⟩) n cap) ∧ n = (firstsO z).length ∧ Row w' g n cap (firstsO z) ∧ w2.grownBy w' (some g)) := compact51_any hz3 (by have := HL.out; omega)
    have HM : Hid (∀ q ∈ firstsO z, q ∈ l) := fun q hq => keep_mem hz2 (firstsO_mem z q hq)
    clear hz1 hz2 hz3 hg2 HS
    go_upto_region 4 with (go_at_call 69; go_must (refine HCm.out.mono ?_; rintro r w3 ⟨n, rfl, hn, hr3, hg3⟩; have HN : Hid (n = (firstsO z).length) := hn; have HR3 : Hid (Row w3 g n cap (firstsO z)) := hr3; have HG3 : Hid (w2.grownBy w3 (some g)) := hg3; clear hn hr3 hg3))
    have hn1000 : n ≤ cap := HR3.out.caps.1
    have hcap := HR3.out.caps.2
    have HB3 : Hid (Below w.heap.size w w3) := bgrown HB2.out HG.out HG3.out
    clear HG3 HCm HC
    generalize hf : firstsO z = f at HN HR3 HM
    have HF : Hid (firstsO z = f) := hf
    clear hf
    go_wp2
    go_loopw [13] (fun i wr => ∃ (m : Nat) (u0 u r : List OpT), i = .int .i64 (m : Int) ∧ m ≤ n ∧ Hid (u.length = m) ∧ Hid (f = u0 ++ r) ∧ Hid (u.map bare = u0.map bare) ∧ Hid (∀ q ∈ u, Rd wr q.v q.b ∧ q.v.ownBlock ≠ some g) ∧ Hid (Row wr g n cap (u ++ r)) ∧ Hid (Below w.heap.size w wr)) (fun i _ => n - (intOf i).toNat)
    case atStart => exact ⟨0, [], [], f, rfl, Nat.zero_le _, rfl, rfl, rfl, (fun q hq => by cases hq), HR3, HB3⟩
    case round =>
      obtain ⟨m, u0, u, r, rfl, hmn, HU, HFr, HA, HUR, HRw, HBw⟩ := hrel
      rename World => wq
      clear HR3 HB3
      by_cases hk : m < n
      · obtain ⟨x, r, rfl⟩ : ∃ x r2, r = x :: r2 := by
          cases r with
          | nil => have h1 := HRw.out.1; have h2 := HU.out; simp at h1; omega
          | cons x r2 => exact ⟨x, r2, rfl⟩
        have hkI : (m : Int) < (n : Int) := by omega
        have hx : (u ++ x :: r)[m]? = some x := by rw [← HU.out]; exact get_mid _ _ _
        have hxl : x ∈ l := HM.out x (by rw [HFr.out]; simp)
        have hxq := HQ.out x hxl
        have c9 : wq.cell? ⟨g, m * 10 + 9, none⟩ = some x.v := (HRw.out.load hx) 9 x.v rfl
        have HBC : Hid (Calls Try.prog 31 #[x.v] wq fun e w' => ∃ v', e = .returned v' ∧ Own wq.heap.size 5 w' v' x.b ∧ Below wq.heap.size wq w') := bclone_any x.v x.b wq (hxq.1.below HBw.out) hxq.2
        obtain ⟨xk, xa, xn, xp, xd, xs, xva, xvn, xvc, xb⟩ := x
        unfold OpT.v at c9 HBC
        dsimp only at c9 HBC
        clear hx hxl hxq
        have hmn' : m + 1 ≤ n := hk
        go_wp2_with (go_at_call 31; go_must (refine HBC.out.mono ?_; rintro r4 w4 ⟨v4, rfl, ho4, hb4⟩; have HO4 : Hid (Own wq.heap.size 5 w4 v4 xb) := ho4; have HB4 : Hid (Below wq.heap.size wq w4) := hb4; obtain ⟨a4, k4, hv4⟩ := ho4.rd.len; subst hv4; have R4 : Row w4 g n cap (u ++ ⟨xk, xa, xn, xp, xd, xs, xva, xvn, xvc, xb⟩ :: r) := HRw.out.below hb4; have HR4 : Hid (Row w4 g n cap (u ++ ⟨xk, xa, xn, xp, xd, xs, xva, xvn, xvc, xb⟩ :: r)) := R4; have c94 : w4.cell? ⟨g, m * 10 + 9, none⟩ = some (.slice xva xvn xvc) := (R4.load (i := m) (by rw [← HU.out]; exact get_mid _ _ _)) 9 _ rfl; have f94 := R4.2.frozenAt (m * 10 + 9); clear ho4 hb4 R4 c9 HBC))
        go_roundw
        case rel =>
          have hgl : g < wq.heap.size := HRw.out.lt
          have hgs : w4.grownBy (w4.setCell ⟨g, m * 10 + 9, none⟩ (.slice a4 xb.length k4)) (some g) := grown_setCell _ _ _ _
          refine ⟨m + 1, u0 ++ [⟨xk, xa, xn, xp, xd, xs, xva, xvn, xvc, xb⟩], u ++ [⟨xk, xa, xn, xp, xd, xs, a4, xb.length, k4, xb⟩], r, by go_num, hmn', ?_, ?_, ?_, ?_, ?_, ?_⟩
          · show _ = _
            have := HU.out; simp; omega
          · show _ = _
            rw [HFr.out]; simp
          · show _ = _
            rw [List.map_append, List.map_append, HA.out]; rfl
          · intro q hq
            rcases List.mem_append.1 hq with h | h
            · have h1 := HUR.out q h
              exact ⟨(h1.1.below HB4.out).kept hgs (fun k e => by cases e; exact h1.2), h1.2⟩
            · rw [List.mem_singleton.1 h]
              have h2 := own_ne HO4.out hgl
              exact ⟨HO4.out.rd.kept hgs (fun k e => by cases e; exact h2), h2⟩
          · show Row _ _ _ _ _
            have := HR4.out.put9 (y := ⟨xk, xa, xn, xp, xd, xs, a4, xb.length, k4, xb⟩) (v := .slice a4 xb.length k4) rfl
            rw [HU.out] at this
            simpa using this
          · exact bgrown (bnext HBw.out HB4.out) HG.out hgs
        case measure => simp [intOf]; omega
      · have hmn2 : m = n := by omega
        have hkI : ¬ (m : Int) < (n : Int) := by omega
        have hr0 : r = [] := by
          have h1 := HRw.out.1; have h2 := HU.out
          simp at h1
          exact List.eq_nil_of_length_eq_zero (by omega)
        have HR0 : Hid (r = []) := hr0
        clear hr0
        go_wp2
        go_ret
        refine ⟨_, rfl, ⟨u, z, HZ1.out, HZ2.out, HZL.out, ?_, ?_, fun q hq => (HUR.out q hq).1⟩, HBw.out⟩
        · rw [HA.out, HF.out, HFr.out, HR0.out, List.append_nil]
        · have h := HRw.out
          rw [HR0.out, List.append_nil] at h
          have h1 := h.1
          have h2 := h.2
          rw [← h1] at h2 ⊢
          exact rowF_own oc_len h2
end

section
set_option linter.unusedVariables false
set_option linter.unusedSimpArgs false
set_option synthInstance.maxSize 20000
set_option maxHeartbeats 2000000
set_option maxRecDepth 20000
open Go.RowKit Go.Maps

def sameO (q r : OpT) : Bool := decide (q.k = r.k ∧ q.a = r.a ∧ q.n = r.n ∧ q.p = r.p ∧ q.d = r.d ∧ q.s.toList = r.s.toList ∧ q.b = r.b)
theorem rsame19 {q r : OpT} {w : World} (hq : Rd w q.v q.b) (hr : Rd w r.v r.b) : Calls Try.prog 37 #[ov q, ov r] w fun e w' => e = .returned (.bool (sameO q r)) ∧ Below w.heap.size w w' := by
  have HE : Hid (∀ w', Below w.heap.size w w' → Calls Try.prog 64 #[q.v, r.v] w' fun e w'' => e = .returned (.bool (decide (q.b = r.b))) ∧ Below w'.heap.size w' w'') := fun w' h => same_any q.v r.v q.b r.b w' (hq.below h) (hr.below h)
  have HQ : Hid (sameO q r = decide (q.k = r.k ∧ q.a = r.a ∧ q.n = r.n ∧ q.p = r.p ∧ q.d = r.d ∧ q.s.toList = r.s.toList ∧ q.b = r.b)) := (rfl : sameO q r = _)
  generalize sameO q r = SO at HQ ⊢
  clear hq hr
  obtain ⟨k, ⟨a1, a2⟩, ⟨n1, n2⟩, ⟨p1, p2⟩, d, s, va, vn, vc, b⟩ := q
  obtain ⟨k', ⟨a1', a2'⟩, ⟨n1', n2'⟩, ⟨p1', p2'⟩, d', s', va', vn', vc', b'⟩ := r
  unfold OpT.v at HE
  unfold ov oc
  dsimp only at HE HQ ⊢
  have HB0 : Hid (Below w.heap.size w ((w.alloc (.cells #[.int .i64 k, .int .i64 a1, .int .i64 a2, .int .i64 n1, .int .i64 n2, .int .i64 p1, .int .i64 p2, .bool d, .string s, .slice va vn vc] 36)).alloc (.cells #[.int .i64 k', .int .i64 a1', .int .i64 a2', .int .i64 n1', .int .i64 n2', .int .i64 p1', .int .i64 p2', .bool d', .string s', .slice va' vn' vc'] 36))) := (show Below _ _ _ from balloc (balloc (Below.refl _ _) _) _)
  by_cases h_k : k = k'
  rotate_left
  · have e_k : (k == k') = false := by simp [h_k]
    have HF : Hid (SO = false) := by show _ = _; rw [HQ.out]; simp [h_k]
    clear HE HQ
    go_enter Try.func37, Try.ntmps37
    go_wp2
    go_ret
    exact ⟨by rw [HF.out]; rfl, HB0.out⟩
  subst h_k
  by_cases h_a1 : a1 = a1'
  rotate_left
  · have e_a1 : (a1 == a1') = false := by simp [h_a1]
    have HF : Hid (SO = false) := by show _ = _; rw [HQ.out]; simp [h_a1]
    clear HE HQ
    go_enter Try.func37, Try.ntmps37
    go_wp2
    go_ret
    exact ⟨by rw [HF.out]; rfl, HB0.out⟩
  subst h_a1
  by_cases h_a2 : a2 = a2'
  rotate_left
  · have e_a2 : (a2 == a2') = false := by simp [h_a2]
    have HF : Hid (SO = false) := by show _ = _; rw [HQ.out]; simp [h_a2]
    clear HE HQ
    go_enter Try.func37, Try.ntmps37
    go_wp2
    go_ret
    exact ⟨by rw [HF.out]; rfl, HB0.out⟩
  subst h_a2
  by_cases h_n1 : n1 = n1'
  rotate_left
  · have e_n1 : (n1 == n1') = false := by simp [h_n1]
    have HF : Hid (SO = false) := by show _ = _; rw [HQ.out]; simp [h_n1]
    clear HE HQ
    go_enter Try.func37, Try.ntmps37
    go_wp2
    go_ret
    exact ⟨by rw [HF.out]; rfl, HB0.out⟩
  subst h_n1
  by_cases h_n2 : n2 = n2'
  rotate_left
  · have e_n2 : (n2 == n2') = false := by simp [h_n2]
    have HF : Hid (SO = false) := by show _ = _; rw [HQ.out]; simp [h_n2]
    clear HE HQ
    go_enter Try.func37, Try.ntmps37
    go_wp2
    go_ret
    exact ⟨by rw [HF.out]; rfl, HB0.out⟩
  subst h_n2
  by_cases h_p1 : p1 = p1'
  rotate_left
  · have e_p1 : (p1 == p1') = false := by simp [h_p1]
    have HF : Hid (SO = false) := by show _ = _; rw [HQ.out]; simp [h_p1]
    clear HE HQ
    go_enter Try.func37, Try.ntmps37
    go_wp2
    go_ret
    exact ⟨by rw [HF.out]; rfl, HB0.out⟩
  subst h_p1
  by_cases h_p2 : p2 = p2'
  rotate_left
  · have e_p2 : (p2 == p2') = false := by simp [h_p2]
    have HF : Hid (SO = false) := by show _ = _; rw [HQ.out]; simp [h_p2]
    clear HE HQ
    go_enter Try.func37, Try.ntmps37
    go_wp2
    go_ret
    exact ⟨by rw [HF.out]; rfl, HB0.out⟩
  subst h_p2
  by_cases h_d : d = d'
  rotate_left
  · have HF : Hid (SO = false) := by show _ = _; rw [HQ.out]; simp [h_d]
    have e_d : (d == d') = false := by simp [h_d]
    clear HE HQ
    go_enter Try.func37, Try.ntmps37
    go_wp2
    go_ret
    exact ⟨by rw [HF.out]; rfl, HB0.out⟩
  subst h_d
  by_cases h_s : s.toList = s'.toList
  rotate_left
  · have HF : Hid (SO = false) := by show _ = _; rw [HQ.out]; simp [h_s]
    have e_s : (s.toList == s'.toList) = false := by simp [h_s]
    clear HE HQ
    go_enter Try.func37, Try.ntmps37
    go_wp2
    go_ret
    exact ⟨by rw [HF.out]; rfl, HB0.out⟩
  have e_s : (s.toList == s'.toList) = true := by simp [h_s]
  have HF : Hid (SO = decide (b = b')) := by show _ = _; rw [HQ.out]; simp [h_s]
  generalize decide (b = b') = bb at HE HF
  clear HQ
  go_enter Try.func37, Try.ntmps37
  go_wp2_with (go_at_call 64; go_must (refine (HE.out _ HB0.out).mono ?_; rintro e w2 ⟨rfl, hb2⟩; have HB2 : Hid (Below w.heap.size w w2) := bnext HB0.out hb2; clear hb2))
  go_ret
  exact ⟨by rw [HF.out]; rfl, HB2.out⟩
end

section
set_option linter.unusedVariables false
set_option linter.unusedSimpArgs false
set_option synthInstance.maxSize 20000
set_option maxHeartbeats 2000000
set_option maxRecDepth 20000
open Go.RowKit Go.Maps

theorem sameO_bare {q r : OpT} (h : bare q = bare r) : sameO q r = true := by
  obtain ⟨k, a, n, p, d, s, va, vn, vc, b⟩ := q
  obtain ⟨k2, a2, n2, p2, d2, s2, va2, vn2, vc2, b2⟩ := r
  unfold bare at h
  simp only [OpT.mk.injEq, true_and, and_true] at h
  obtain ⟨rfl, rfl, rfl, rfl, rfl, rfl, rfl⟩ := h
  simp [sameO]
set_option maxHeartbeats 4000000 in
theorem all20 {w : World} {v u : Value} {x y : List OpT} (hv : RowF oc w v x) (hu : RowF oc w u y) (hx : ∀ q ∈ x, Rd w q.v q.b) (hy : ∀ q ∈ y, Rd w q.v q.b) (h : x.map bare = y.map bare) :
    Calls Try.prog 13 #[v, u] w fun e w' => e = .returned (.bool true) ∧ Below w.heap.size w w' := by
  have hN : y.length = x.length := by have := congrArg List.length h; simpa using this.symm
  obtain ⟨a, c, rfl⟩ := hv.len
  obtain ⟨a2, c2, rfl⟩ := hu.len
  have hcap := hv.caps
  have hcap2 := hu.caps
  have hcapN : x.length ≤ 9223372036854775807 := by omega
  have HV : Hid (RowF oc w (.slice a x.length c) x) := hv
  have HU : Hid (RowF oc w (.slice a2 y.length c2) y) := hu
  rw [hN] at HU ⊢
  have HN : Hid (y.length = x.length) := hN
  have HX : Hid (∀ q ∈ x, Rd w q.v q.b) := hx
  have HY : Hid (∀ q ∈ y, Rd w q.v q.b) := hy
  have HE : Hid (x.map bare = y.map bare) := h
  have HNL : Hid (∃ N, x.length = N) := ⟨_, rfl⟩
  obtain ⟨N, hNN⟩ := HNL.out
  have HNN : Hid (x.length = N) := hNN
  rw [hNN] at HV HU HN hcapN ⊢
  clear hv hu hx hy h hN hcap hcap2 HNL hNN
  go_enter Try.func13, Try.ntmps13
  go_wp2
  go_loopw [5] (fun i wr => ∃ m : Nat, i = .int .i64 (m : Int) ∧ m ≤ N ∧ Hid (Below w.heap.size w wr)) (fun i _ => N - (intOf i).toNat)
  case atStart => exact ⟨0, rfl, Nat.zero_le _, Below.refl _ _⟩
  case round =>
    obtain ⟨m, rfl, hm, HB⟩ := hrel
    rename World => wq
    by_cases hk : m < N
    · have hkI : (m : Int) < (N : Int) := by omega
      obtain ⟨q, hq⟩ : ∃ q, x[m]? = some q := ⟨_, List.getElem?_eq_getElem (by have := HNN.out; omega)⟩
      obtain ⟨r, hr⟩ : ∃ r, y[m]? = some r := ⟨_, List.getElem?_eq_getElem (by have := HN.out; omega)⟩
      have hqr : bare q = bare r := by
        have h1 : (x.map bare)[m]? = (y.map bare)[m]? := by rw [HE.out]
        rw [List.getElem?_map, List.getElem?_map, hq, hr] at h1
        simpa using h1
      have hs := sameO_bare hqr
      obtain ⟨b1, o1, rfl, _⟩ := HV.out.at oc_len hq
      obtain ⟨b2, o2, rfl, _⟩ := HU.out.at oc_len hr
      have hC : ∀ w' : World, Below wq.heap.size wq w' → w'.rangeAt b1 (o1 + m * 10) (oc q) ∧ w'.rangeAt b2 (o2 + m * 10) (oc r) := fun w' hb => by
        obtain ⟨b1', o1', e1, h1⟩ := (HV.out.below (bnext HB.out hb)).at oc_len hq
        obtain ⟨b2', o2', e2, h2⟩ := (HU.out.below (bnext HB.out hb)).at oc_len hr
        cases e1
        cases e2
        exact ⟨h1, h2⟩
      have HCL : Hid (∀ z : WIn (fun w' => Below wq.heap.size wq w'), z.w.rangeAt b1 (o1 + m * 10) (oc q) ∧ z.w.rangeAt b2 (o2 + m * 10) (oc r)) := fun z => hC z.w z.ok
      have hqx := HX.out q (List.mem_of_getElem? hq)
      have hrx := HY.out r (List.mem_of_getElem? hr)
      have HK : Hid (∀ w' : World, Below wq.heap.size wq w' → Calls Try.prog 37 #[ov q, ov r] w' fun r w'' => r = .returned (.bool true) ∧ Below w'.heap.size w' w'') := fun w' hb => by
        have := rsame19 (w := w') (hqx.below (bnext HB.out hb)) (hrx.below (bnext HB.out hb))
        rwa [hs] at this
      have ne : Nonempty (WIn (fun w' => Below wq.heap.size wq w')) := ⟨⟨wq, Below.refl _ _⟩⟩
      clear hq hr hqr hs hC hqx hrx
      go_wp2_with fail
      refine wp_region_tree (C := fun w' => ∃ z : WIn (fun w' => Below wq.heap.size wq w'), w' = z.w) (.still 0 (.still 1 (.still 2 (.still 3 (.still 4 (.still 5 (.still 6 (.still 7 (.one 8 (.still 9 .done)))))))))) (by kernel_rfl) (by kernel_rfl) ⟨⟨wq.drew, below_drewn wq 1⟩, rfl⟩ ?_
      iterate 3 (refine tree_still rfl rfl ?_; go_big_quiet_step (fail); refine wpQuiet_nil ?_)
      refine tree_still rfl rfl ?_
      refine quiet_ok1 rfl (fun w' hw' => by obtain ⟨z, rfl⟩ := hw'; exact exec_load26 (q := q) (.tmp 19) rfl rfl (HCL.out z).1) ?_
      go_simp
      iterate 3 (refine tree_still rfl rfl ?_; go_big_quiet_step (fail); refine wpQuiet_nil ?_)
      refine tree_still rfl rfl ?_
      refine quiet_ok1 rfl (fun w' hw' => by obtain ⟨z, rfl⟩ := hw'; exact exec_load26 (q := r) (.tmp 23) rfl rfl (HCL.out z).2) ?_
      go_simp
      refine tree_one rfl rfl ?_
      go_simp
      refine (HK.out _ (below_drewn wq 1)).mono ?_
      rintro r w3 ⟨rfl, hb3⟩
      have HB3 : Hid (Below wq.heap.size wq w3) := bnext (below_drewn wq 1) hb3
      clear hb3
      refine ⟨⟨⟨w3, HB3.out⟩, rfl⟩, ?_⟩
      go_simp
      iterate 1 (refine tree_still rfl rfl ?_; go_big_quiet_step (fail); refine wpQuiet_nil ?_)
      refine tree_done ?_
      clear ne HCL HK
      go_wp2
      go_roundw
      case rel => exact ⟨m + 1, by go_num, by omega, bnext HB.out HB3.out⟩
      case measure => simp [intOf]; omega
    · have hkI : ¬ (m : Int) < (N : Int) := by omega
      go_wp2
      go_ret
      exact ⟨rfl, HB.out⟩
end
end Go.Proofs.Ythnjbjlhfohpfaa
