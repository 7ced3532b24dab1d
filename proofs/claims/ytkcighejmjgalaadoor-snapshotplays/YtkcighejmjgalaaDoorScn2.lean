/-
  Rows of slices of bytes that grow (RecAt); slices.EqualFunc at them; standing and Scan of the program.
-/
import Derived.Test.YtkcighejmjgalaaDoorScn
namespace Go.Proofs.YtkcighejmjgalaaDoor
set_option linter.unusedVariables false
set_option linter.unusedSimpArgs false
set_option synthInstance.maxSize 20000
set_option maxHeartbeats 2000000
set_option maxRecDepth 20000
open Go.RowKit Go.Maps

/-! ### Cuts -/
theorem lc_range {w : World} {b off : Nat} {qs : List VB} : w.rangeAt b off (flat lc qs) ↔ ∀ i q, qs[i]? = some q → w.cell? ⟨b, off + i, none⟩ = some q.1 := by
  rw [flat_lc]
  constructor
  · intro h i q hq
    exact h i q.1 (by simp [hq])
  · intro h i u hu
    rw [List.getElem?_map] at hu
    cases hq : qs[i]? with
    | none => rw [hq] at hu; cases hu
    | some q => rw [hq] at hu; cases hu; exact h i q hq
theorem rl_take {w : World} {a : Option Addr} {cap n : Nat} {qs : List VB} (h : RL w (.slice a qs.length cap) qs) (hn : n ≤ qs.length) : RL w (.slice a n cap) (qs.take n) := by
  obtain ⟨⟨a', cap', e, h1, h2, h3, h4⟩, hr⟩ := h
  obtain ⟨rfl, rfl⟩ : a = a' ∧ cap = cap' := by simpa using e
  have hl : (qs.take n).length = n := by rw [List.length_take]; omega
  refine ⟨⟨a, cap, by rw [hl], by omega, h2, h3, fun hp => ?_⟩, fun q hq => hr q (List.mem_of_mem_take hq)⟩
  obtain ⟨b, off, rfl, hc⟩ := h4 (by omega)
  refine ⟨b, off, rfl, lc_range.2 fun i q hq => ?_⟩
  refine lc_range.1 hc i q ?_
  rw [List.getElem?_take] at hq
  split at hq
  · exact hq
  · cases hq
theorem rl_drop {w : World} {a : Option Addr} {cap s : Nat} {qs : List VB} (h : RL w (.slice a qs.length cap) qs) (hs : s ≤ qs.length) (hne : ¬ cap = s) : RL w (.slice (Option.map (fun x => x.add s) a) (qs.length - s) (cap - s)) (qs.drop s) := by
  obtain ⟨⟨a', cap', e, h1, h2, h3, h4⟩, hr⟩ := h
  obtain ⟨rfl, rfl⟩ : a = a' ∧ cap = cap' := by simpa using e
  refine ⟨⟨_, cap - s, by rw [List.length_drop], by rw [List.length_drop]; omega, by omega, fun hn => ?_, fun hp => ?_⟩, fun q hq => hr q (List.mem_of_mem_drop hq)⟩
  · have := h3 (by simpa using hn)
    omega
  · rw [List.length_drop] at hp
    obtain ⟨b, off, rfl, hc⟩ := h4 (by omega)
    refine ⟨b, off + s, by rw [Option.map_some, Addr.add_lit], lc_range.2 fun i q hq => ?_⟩
    rw [List.getElem?_drop] at hq
    rw [Nat.add_assoc]
    exact lc_range.1 hc (s + i) q hq
theorem rl_drop0 {w : World} {a : Option Addr} {s : Nat} {qs : List VB} (h : RL w (.slice a qs.length s) qs) (hs : s ≤ qs.length) : RL w (.slice a 0 0) (qs.drop s) := by
  obtain ⟨⟨a', cap', e, h1, h2, h3, h4⟩, hr⟩ := h
  have : qs.drop s = [] := List.drop_eq_nil_of_le (by
    obtain ⟨rfl, rfl⟩ : a = a' ∧ s = cap' := by simpa using e
    omega)
  rw [this]
  exact ⟨⟨a, 0, rfl, Nat.le_refl _, by unfold maxLen; omega, fun _ => rfl, fun hp => by simp at hp⟩, fun q hq => by cases hq⟩
theorem LL_take (qs : List VB) (n : Nat) : LL (qs.take n) = (LL qs).take n := by simp [LL]
theorem LL_drop (qs : List VB) (n : Nat) : LL (qs.drop n) = (LL qs).drop n := by simp [LL]

/-! ### Rows that grow -/
structure RecAt (B : Nat) (w : World) (v : Value) (qs : List VB) : Prop where
  own : w.ownsRow 0 30 1 v qs.length (flat lc qs)
  rd : ∀ q ∈ qs, Rd w q.1 q.2
  apart : ∀ q ∈ qs, q.2 ≠ [] → ∀ j, q.1.ownBlock = some j → v.ownBlock ≠ some j
  new : ∀ k, v.ownBlock = some k → B ≤ k
theorem recAt_nil (B : Nat) (w : World) : RecAt B w nilv [] := ⟨World.ownsRow_nil _ _ _ _, (fun q hq => by cases hq), (fun q hq => by cases hq), fun k hk => by cases hk⟩
theorem RecAt.rl {B : Nat} {w : World} {v : Value} {qs : List VB} (h : RecAt B w v qs) : RL w v qs := ⟨rowF_own lc_len h.own, h.rd⟩
theorem RecAt.blocks {B : Nat} {w w' : World} {v : Value} {qs : List VB} (h : RecAt B w v qs) (h1 : ∀ k, v.ownBlock = some k → w'.heap[k]? = w.heap[k]?) (h2 : ∀ q ∈ qs, q.2 ≠ [] → ∀ k, q.1.ownBlock = some k → k < w.heap.size → w'.heap[k]? = w.heap[k]?) : RecAt B w' v qs :=
  ⟨ownsRow_block h.own h1, fun q hq => (h.rd q hq).blocks (fun hl k hk hlt => h2 q hq hl k hk hlt), h.apart, h.new⟩
theorem RecAt.below {B : Nat} {w w' : World} {v : Value} {qs : List VB} (h : RecAt B w v qs) (hb : Below w.heap.size w w') : RecAt B w' v qs :=
  h.blocks (fun k hk => hb.block k (h.own.lt k hk).2) (fun q hq hl k hk hlt => hb.block k hlt)
theorem RecAt.add {B : Nat} {w1 w3 : World} {v v' ev : Value} {eb : List Int} {qs : List VB} (h : RecAt B w1 v qs) (hB : B ≤ w1.heap.size) (he : Rd w1 ev eb) (ha : eb ≠ [] → ∀ j, ev.ownBlock = some j → v.ownBlock ≠ some j)
    (k1 : w3.ownsRow 0 30 1 v' (qs ++ [(ev, eb)]).length (flat lc (qs ++ [(ev, eb)]))) (k2 : (w1.alloc (.cells #[ev] 30)).grownBy w3 v.ownBlock) (k3 : ∀ j, v'.ownBlock = some j → v.ownBlock = some j ∨ (w1.alloc (.cells #[ev] 30)).heap.size ≤ j) :
    RecAt B w3 v' (qs ++ [(ev, eb)]) ∧ w1.grownBy w3 v.ownBlock := by
  have hb2 : Below w1.heap.size w1 (w1.alloc (.cells #[ev] 30)) := balloc (Below.refl _ _) _
  have hsz : w1.heap.size ≤ (w1.alloc (.cells #[ev] 30)).heap.size := hb2.size
  have hg : w1.grownBy w3 v.ownBlock := grown_none (below_grown hb2) k2
  refine ⟨⟨k1, fun q hq => ?_, fun q hq hl j hj e => ?_, fun k hk => ?_⟩, hg⟩
  · rcases List.mem_append.1 hq with hq | hq
    · exact (h.rd q hq).blocks (fun hl k hk hlt => hg.block k hlt (fun e => h.apart q hq hl k hk e.symm))
    · simp at hq
      subst hq
      exact he.blocks (fun hl k hk hlt => hg.block k hlt (fun e => ha hl k hk e.symm))
  · have hlt : j < w1.heap.size := by
      rcases List.mem_append.1 hq with hq | hq
      · exact (h.rd q hq).blockLt hl j hj
      · simp at hq
        subst hq
        exact he.blockLt hl j hj
    rcases k3 j e with h9 | h9
    · rcases List.mem_append.1 hq with hq | hq
      · exact h.apart q hq hl j hj h9
      · simp at hq
        subst hq
        exact ha hl j hj h9
    · omega
  · rcases k3 k hk with h9 | h9
    · exact h.new k h9
    · omega
theorem RecAt.grown {B : Nat} {w0 w w' : World} {v : Value} {qs : List VB} (h : RecAt B w v qs) (hb : Below B w0 w) (hB : B ≤ w0.heap.size) (hg : w.grownBy w' v.ownBlock) : Below B w0 w' :=
  hb.grown hg (Nat.le_trans hB hb.size) fun k hk => h.new k hk
theorem flat_lc_one (qs : List VB) (h : ∀ q ∈ qs, q.1.oneCell' = true) : ∀ u ∈ flat lc qs, u.oneCell' = true := fun u hu => by
  rw [flat_lc, List.mem_map] at hu
  obtain ⟨q, hq, rfl⟩ := hu
  exact h q hq
theorem Rd.oneCell {w : World} {v : Value} {l : List Int} (h : Rd w v l) : v.oneCell' = true := by
  obtain ⟨a, c, rfl⟩ := h.len
  rfl

/-! ### slices.EqualFunc -/
theorem ll_take_snoc {a b : List (List Int)} {k : Nat} {x y : List Int} (h : a.take k = b.take k) (ha : a[k]? = some x) (hb : b[k]? = some y) (e : x = y) : a.take (k + 1) = b.take (k + 1) := by
  obtain ⟨h1, h2⟩ := List.getElem?_eq_some_iff.1 ha
  obtain ⟨h3, h4⟩ := List.getElem?_eq_some_iff.1 hb
  rw [List.take_succ_eq_append_getElem h1, List.take_succ_eq_append_getElem h3, h, h2, h4, e]
theorem eqf59 {w : World} {v1 v2 : Value} {ps qs : List VB} (hp : RL w v1 ps) (hq : RL w v2 qs) (hl : ps.length ≤ 400) : Calls Tryd.prog 74 #[v1, v2, .func (.func 62) #[] #[]] w fun r w' => r = .returned (.bool (decide (LL ps = LL qs))) ∧ Below w.heap.size w w' := by
  obtain ⟨a1, c1, rfl⟩ := hp.len
  obtain ⟨a2, c2, rfl⟩ := hq.len
  have hc1 := hp.row.caps
  have hc2 := hq.row.caps
  by_cases he : ps.length = qs.length
  · have hne : ((ps.length : Int) != (qs.length : Int)) = false := by simp [he]
    have HP : Hid (RL w (.slice a1 ps.length c1) ps) := hp
    have HQ : Hid (RL w (.slice a2 qs.length c2) qs) := hq
    have HE : Hid (ps.length = qs.length) := he
    obtain ⟨m, hm⟩ : ∃ m, m = ps.length := ⟨_, rfl⟩
    have HM : Hid (m = ps.length) := hm
    rw [← he, ← hm] at hne hc2
    rw [← he, ← hm]
    rw [← hm] at hl hc1
    have b1 : m ≤ c1 := hc1.2.1
    have b2 : c1 ≤ 9223372036854775807 := hc1.2.2
    have b3 : m ≤ c2 := hc2.2.1
    have b4 : c2 ≤ 9223372036854775807 := hc2.2.2
    clear hc1 hc2 hp hq he hm
    go_enter Tryd.func74, Tryd.ntmps74
    go_wp2
    go_loopw [17] (fun kv wr => ∃ (k : Nat), k ≤ m ∧ kv = .int .i64 k ∧ Hid ((LL ps).take k = (LL qs).take k) ∧ Hid (Below w.heap.size w wr)) (fun kv _ => m - (intOf kv).toNat)
    case atStart => exact ⟨0, Nat.zero_le _, rfl, rfl, Below.refl _ _⟩
    case round =>
      obtain ⟨k, hk, rfl, hT, hB⟩ := hrel
      by_cases hlt : k < m
      · obtain ⟨p, hp⟩ : ∃ p, ps[k]? = some p := ⟨_, List.getElem?_eq_getElem (by rw [← HM.out]; exact hlt)⟩
        obtain ⟨q, hq⟩ : ∃ q, qs[k]? = some q := ⟨_, List.getElem?_eq_getElem (by rw [← HE.out, ← HM.out]; exact hlt)⟩
        have rp := HP.out.below hB.out
        have rq := HQ.out.below hB.out
        obtain ⟨bp, op, rfl, cp⟩ := rp.at hp
        obtain ⟨bq, oq, rfl, cq⟩ := rq.at hq
        have HC : Hid (Calls Tryd.prog 62 #[p.1, q.1] wr fun e w' => e = .returned (.bool (decide (p.2 = q.2))) ∧ Below wr.heap.size wr w') := (equal_any _ _ _ _ wr (rp.rd p (List.mem_of_getElem? hp)) (rq.rd q (List.mem_of_getElem? hq))).mono fun e w' h => ⟨h.1, by rw [h.2]; exact Below.refl _ _⟩
        obtain ⟨ap, kp, hpv⟩ := (rp.rd p (List.mem_of_getElem? hp)).len
        obtain ⟨aq, kq, hqv⟩ := (rq.rd q (List.mem_of_getElem? hq)).len
        rw [hpv] at cp HC
        rw [hqv] at cq HC
        have hpL := LL_at hp
        have hqL := LL_at hq
        by_cases hpq : p.2 = q.2
        · rw [decide_eq_true hpq] at HC
          have HT2 : Hid ((LL ps).take (k + 1) = (LL qs).take (k + 1)) := ll_take_snoc hT.out hpL hqL hpq
          clear rp rq hp hq hpq hpL hqL hpv hqv
          go_wp2_with (go_at_call 62; go_must (refine HC.out.mono ?_; rintro r w2 ⟨rfl, hb2⟩; have HB2 : Hid (Below w.heap.size w w2) := bnext hB.out hb2; clear hb2))
          go_roundw
          case rel => exact ⟨k + 1, by omega, by go_num, HT2, HB2⟩
          case measure => simp [intOf]; omega
        · rw [decide_eq_false hpq] at HC
          have HN : Hid (¬ LL ps = LL qs) := fun e => hpq (by rw [e, hqL] at hpL; exact (Option.some.inj hpL).symm)
          clear rp rq hp hq hpq hpL hqL hpv hqv
          go_wp2_with (go_at_call 62; go_must (refine HC.out.mono ?_; rintro r w2 ⟨rfl, hb2⟩; have HB2 : Hid (Below w.heap.size w w2) := bnext hB.out hb2; clear hb2))
          go_ret
          refine ⟨?_, HB2.out⟩
          rw [decide_eq_false HN.out]
          rfl
      · obtain rfl : k = m := by omega
        have HN : Hid (LL ps = LL qs) := by
          have := hT.out
          rwa [List.take_of_length_le (by rw [LL_len, HM.out]; exact Nat.le_refl _), List.take_of_length_le (by rw [LL_len, ← HE.out, HM.out]; exact Nat.le_refl _)] at this
        go_wp2
        go_ret
        refine ⟨?_, hB.out⟩
        rw [decide_eq_true HN.out]
        rfl
  · have hne : ((ps.length : Int) != (qs.length : Int)) = true := by simp; omega
    have HN : Hid (¬ LL ps = LL qs) := fun e => he (by rw [← LL_len, e, LL_len])
    rw [decide_eq_false HN.out]
    clear hp hq
    go_enter Tryd.func74, Tryd.ntmps74
    go_wp2
    go_ret
    exact ⟨rfl, Below.refl _ _⟩

/-! ### standing -/
theorem stand_head {l : List (List Int)} {gen seq : Int} (h : (stand l gen seq).2 ≠ 0) : ∃ r x, x.length ≤ 48 ∧ l.headD [] = partB gen r seq (0 : Nat) ((stand l gen seq).2 : Nat) x ∧ (stand l gen seq).2 ≤ l.length := by
  have hs := stand_some h
  obtain ⟨r, _, _, h3⟩ := hs.at
  have h0 := h3 0 hs.pos
  refine ⟨r, chunk (stand l gen seq).1 0, chunk_len _ 0, ?_, hs.le⟩
  cases l with
  | nil => cases h0
  | cons s t => exact Option.some.inj h0
theorem stand_short {l : List (List Int)} {gen seq : Int} (h : (l.headD []).length ≠ 64) : stand l gen seq = ([], 0) := by
  refine stand_zero (Classical.byContradiction fun h0 => ?_)
  obtain ⟨r, x, hx, e, _⟩ := stand_head h0
  rw [e, partB_len hx] at h
  exact h rfl
theorem stand_far {l : List (List Int)} {gen seq : Int} (h : l.length < ((l.headD []).getD 14 0).toNat) : stand l gen seq = ([], 0) := by
  refine stand_zero (Classical.byContradiction fun h0 => ?_)
  obtain ⟨r, x, hx, e, hl⟩ := stand_head h0
  rw [e, partB_n, Int.toNat_natCast] at h
  omega
/-- A record that was told, or none. -/
def OutR (B : Nat) (w' : World) (v : Value) (b : List Int) : Prop := Rd w' v b ∧ ∀ k, v.ownBlock = some k → B ≤ k
theorem outR_nil (B : Nat) (w : World) : OutR B w nilv [] := ⟨rd_nil w, fun k hk => by cases hk⟩
theorem standing37 {w : World} {v : Value} {qs : List VB} {gen seq : Int} (h : RL w v qs) (hl : qs.length ≤ 400) (hg : U32 gen) (hs : U32 seq) : Calls Tryd.prog 63 #[v, .int .u32 gen, .int .u32 seq] w fun r w' => ∃ v', r = .returned (.tuple #[v', .int .i64 ((stand (LL qs) gen seq).2 : Nat)]) ∧ OutR w.heap.size w' v' (stand (LL qs) gen seq).1 ∧ Below w.heap.size w w' := by
  obtain ⟨a, cap, rfl⟩ := h.len
  have hcap := h.row.caps
  have hm1 : qs.length ≤ cap := hcap.2.1
  have hm2 : cap ≤ 9223372036854775807 := hcap.2.2
  clear hcap
  cases hqs : qs with
  | nil =>
    subst hqs
    have e : stand (LL []) gen seq = ([], 0) := stand_short (by simp [LL])
    rw [e]
    clear e h
    go_enter Tryd.func63, Tryd.ntmps63
    go_wp2
    refine bodyPost_ret (results_tmp2 rfl _ _ _) rfl ⟨_, rfl, outR_nil _ _, Below.refl _ _⟩
  | cons q ts =>
    rw [← hqs]
    have hq : qs[0]? = some q := by rw [hqs]; rfl
    have hhd : (LL qs).headD [] = q.2 := by rw [hqs]; rfl
    have hpos : 0 < qs.length := by rw [hqs]; simp
    clear hqs
    obtain ⟨bb, off, rfl, hcell⟩ := h.at hq
    have hqr : Rd w q.1 q.2 := h.rd q (List.mem_of_getElem? hq)
    obtain ⟨qv, s⟩ := q
    simp only at hcell hqr hhd
    rw [Nat.add_zero] at hcell
    have HR56 : Hid (Calls Tryd.prog 71 #[qv] w fun r w' => r = .returned (.bool (decide (s.length = 64))) ∧ w' = w) := readable56 hqr
    obtain ⟨m, hm⟩ : ∃ m, m = qs.length := ⟨_, rfl⟩
    have HM : Hid (m = qs.length) := hm
    by_cases h64 : s.length = 64
    · obtain ⟨sb, so, sc, hqv, hs1, hs2, hs3, hs4⟩ := hqr.spot (by omega)
      subst hqv
      rw [decide_eq_true h64] at HR56
      have c14 := hs4 14 (by omega)
      have o14 := hqr.oct.at 14
      obtain ⟨n, hn⟩ : ∃ n : Nat, s.getD 14 0 = n := ⟨(s.getD 14 0).toNat, by omega⟩
      rw [hn] at c14
      rw [h64] at hs1 HR56 hcell
      by_cases hfar : qs.length < n
      · have e : stand (LL qs) gen seq = ([], 0) := stand_far (by rw [hhd, hn, LL_len]; omega)
        rw [e]
        rw [← hm] at hm1 hpos hfar ⊢
        clear e h hs4 hqr hhd hq h64 hs3 hm
        go_enter Tryd.func63, Tryd.ntmps63
        go_wp2_with (go_at_call 71; go_must (refine HR56.out.mono ?_; rintro r w2 ⟨rfl, hw2⟩; replace hw2 := hw2.symm; subst hw2))
        refine bodyPost_ret (results_tmp2 rfl _ _ _) rfl ⟨_, rfl, outR_nil _ _, Below.refl _ _⟩
      · have hr5 : ∀ w', Below w.heap.size w w' → Rd w' (.slice (some ⟨sb, so + 5, none⟩) 59 (sc - 5)) (s.drop 5) := fun w' hb => by
          have := (rd_sub (i := 5) (n := 59) hqr (by omega)).below hb
          rwa [List.take_of_length_le (by rw [List.length_drop]; omega)] at this
        have ht := rl_take h (n := n) (by omega)
        have hj := joined57 ht (by rw [List.length_take]; omega)
        rw [LL_take] at hj
        have HJ57 : Hid (Calls Tryd.prog 72 #[.slice (some ⟨bb, off, none⟩) n cap] w fun r w' => ∃ v', r = .returned v' ∧ Own w.heap.size 5 w' v' (joinL ((LL qs).take n)) ∧ Below w.heap.size w w') := hj
        have hjl : (joinL ((LL qs).take n)).length ≤ 48 * 400 := take_len_le (by rw [LL_len]; exact hl)
        have H58 : Hid (∀ w', Below w.heap.size w w' → Calls Tryd.prog 73 #[.slice (some ⟨sb, so + 5, none⟩) 59 (sc - 5)] w' fun r w'' => r = .returned (.int .u32 (num4 (s.drop 5))) ∧ Below w'.heap.size w' w'') := fun w' hb => number58 (hr5 w' hb) (by rw [List.length_drop]; omega)
        have hu5 : U32 (num4 (s.drop 5)) := num4_u32 (hqr.oct.drop 5)
        have HFr : Hid (∀ w' bv, Rd w' bv (joinL ((LL qs).take n)) → Calls Tryd.prog 69 #[.int .u32 gen, .int .u32 (num4 (s.drop 5)), .int .u32 seq, bv] w' fun r w'' => ∃ v, r = .returned (.tuple #[v, .int .i64 (frameK gen (num4 (s.drop 5)) (joinL ((LL qs).take n)))]) ∧ OutL w'.heap.size w'' v (frameB gen (num4 (s.drop 5)) seq (joinL ((LL qs).take n))) ∧ Below w'.heap.size w' w'') := fun w' bv hb => frame10 hg hu5 hs hb (by omega)
        have HEq : Hid (∀ w' fv fs, Below w.heap.size w w' → RL w' fv fs → Calls Tryd.prog 74 #[.slice (some ⟨bb, off, none⟩) n cap, fv, .func (.func 62) #[] #[]] w' fun r w'' => r = .returned (.bool (decide ((LL qs).take n = LL fs))) ∧ Below w'.heap.size w' w'') := fun w' fv fs hb hf => by
          have := eqf59 (ht.below hb) hf (by rw [List.length_take]; omega)
          rwa [LL_take] at this
        have HST : Hid (stand (LL qs) gen seq = standR (LL qs) gen seq (num4 (s.drop 5)) n) := by
          show _ = _
          unfold stand
          rw [hhd, hn, Int.toNat_natCast]
        rw [HST.out]
        unfold standR
        generalize num4 (s.drop 5) = R at *
        generalize (LL qs).take n = T at *
        generalize joinL T = J at *
        rw [← hm] at hm1 hpos hfar ⊢
        clear h hs4 hqr hhd hq h64 hs3 hm hr5 ht hj HST hn
        by_cases hK : frameK gen R J = 0
        · have hK2 := frameK_zero.1 hK
          rw [hK, frame_some hK] at HFr
          by_cases hTF : T = frameL gen R seq J
          · rw [if_pos ⟨hK2.1, hK2.2.1, hK2.2.2, hTF⟩]
            have hTF' : decide (T = frameL gen R seq J) = true := decide_eq_true hTF
            have HTF : Hid (decide (T = frameL gen R seq J) = true) := hTF'
            clear hTF hTF' hK2
            go_enter Tryd.func63, Tryd.ntmps63
            go_wp2_with (go_at_call 71; go_must (refine HR56.out.mono ?_; rintro r w2 ⟨rfl, hw2⟩; replace hw2 := hw2.symm; subst hw2))
            refine HJ57.out.mono ?_
            rintro r w2 ⟨v2, rfl, ho2, hb2⟩
            obtain ⟨a2, c2, hv2⟩ := ho2.rd.len
            subst hv2
            have HO2 : Hid (Rd w2 (.slice a2 J.length c2) J) := ho2.rd
            have HN2 : Hid (∀ k, (Value.slice a2 J.length c2).ownBlock = some k → w.heap.size ≤ k) := fun k hk => (ho2.2.lt k hk).1
            have HB2 : Hid (Below w.heap.size w w2) := hb2
            have hcell2 := (hb2.cell (World.block_lt_of_cell? w _ hcell)).trans hcell
            clear ho2 hb2 hcell c14 HJ57 HR56
            go_wp2_with fail
            refine (H58.out w2 HB2.out).mono ?_
            rintro r w3 ⟨rfl, hb3⟩
            have HB3 : Hid (Below w.heap.size w w3) := bnext HB2.out hb3
            have HO3 : Hid (Rd w3 (.slice a2 J.length c2) J) := HO2.out.below hb3
            clear hb3 hcell2 HO2 HB2
            go_wp2_with fail
            refine (HFr.out w3 _ HO3.out).mono ?_
            rintro r w4 ⟨v4, rfl, ⟨fs, f1, f2, f3⟩, hb4⟩
            obtain ⟨a4, c4, hv4⟩ := f1.len
            subst hv4
            have HB4 : Hid (Below w.heap.size w w4) := bnext HB3.out hb4
            have HO4 : Hid (Rd w4 (.slice a2 J.length c2) J) := HO3.out.below hb4
            have HC59 := HEq.out w4 _ fs HB4.out f1
            rw [f2, HTF.out] at HC59
            clear f1 f2 f3 hb4 HO3 HB3
            go_wp2_with fail
            refine HC59.mono ?_
            rintro r w5 ⟨rfl, hb5⟩
            have HB5 : Hid (Below w.heap.size w w5) := bnext HB4.out hb5
            have HO5 : Hid (Rd w5 (.slice a2 J.length c2) J) := HO4.out.below hb5
            clear hb5 HC59
            go_wp2
            refine bodyPost_ret (results_tmp2 rfl _ _ _) rfl ⟨_, rfl, ⟨HO5.out, HN2.out⟩, HB5.out⟩
          · rw [if_neg (fun h => hTF h.2.2.2)]
            have HTF : Hid (decide (T = frameL gen R seq J) = false) := decide_eq_false hTF
            clear hTF hK2
            go_enter Tryd.func63, Tryd.ntmps63
            go_wp2_with (go_at_call 71; go_must (refine HR56.out.mono ?_; rintro r w2 ⟨rfl, hw2⟩; replace hw2 := hw2.symm; subst hw2))
            refine HJ57.out.mono ?_
            rintro r w2 ⟨v2, rfl, ho2, hb2⟩
            obtain ⟨a2, c2, hv2⟩ := ho2.rd.len
            subst hv2
            have HO2 : Hid (Rd w2 (.slice a2 J.length c2) J) := ho2.rd
            have HN2 : Hid (∀ k, (Value.slice a2 J.length c2).ownBlock = some k → w.heap.size ≤ k) := fun k hk => (ho2.2.lt k hk).1
            have HB2 : Hid (Below w.heap.size w w2) := hb2
            have hcell2 := (hb2.cell (World.block_lt_of_cell? w _ hcell)).trans hcell
            clear ho2 hb2 hcell c14 HJ57 HR56
            go_wp2_with fail
            refine (H58.out w2 HB2.out).mono ?_
            rintro r w3 ⟨rfl, hb3⟩
            have HB3 : Hid (Below w.heap.size w w3) := bnext HB2.out hb3
            have HO3 : Hid (Rd w3 (.slice a2 J.length c2) J) := HO2.out.below hb3
            clear hb3 hcell2 HO2 HB2
            go_wp2_with fail
            refine (HFr.out w3 _ HO3.out).mono ?_
            rintro r w4 ⟨v4, rfl, ⟨fs, f1, f2, f3⟩, hb4⟩
            obtain ⟨a4, c4, hv4⟩ := f1.len
            subst hv4
            have HB4 : Hid (Below w.heap.size w w4) := bnext HB3.out hb4
            have HO4 : Hid (Rd w4 (.slice a2 J.length c2) J) := HO3.out.below hb4
            have HC59 := HEq.out w4 _ fs HB4.out f1
            rw [f2, HTF.out] at HC59
            clear f1 f2 f3 hb4 HO3 HB3
            go_wp2_with fail
            refine HC59.mono ?_
            rintro r w5 ⟨rfl, hb5⟩
            have HB5 : Hid (Below w.heap.size w w5) := bnext HB4.out hb5
            have HO5 : Hid (Rd w5 (.slice a2 J.length c2) J) := HO4.out.below hb5
            clear hb5 HC59
            go_wp2
            refine bodyPost_ret (results_tmp2 rfl _ _ _) rfl ⟨_, rfl, outR_nil _ _, HB5.out⟩
        · rw [if_neg (fun h => hK (frameK_zero.2 ⟨h.1, h.2.1, h.2.2.1⟩))]
          have hKn : (frameK gen R J != 0) = true := by simpa using hK
          generalize frameK gen R J = K at *
          clear hK
          go_enter Tryd.func63, Tryd.ntmps63
          go_wp2_with (go_at_call 71; go_must (refine HR56.out.mono ?_; rintro r w2 ⟨rfl, hw2⟩; replace hw2 := hw2.symm; subst hw2))
          refine HJ57.out.mono ?_
          rintro r w2 ⟨v2, rfl, ho2, hb2⟩
          obtain ⟨a2, c2, hv2⟩ := ho2.rd.len
          subst hv2
          have HO2 : Hid (Rd w2 (.slice a2 J.length c2) J) := ho2.rd
          have HN2 : Hid (∀ k, (Value.slice a2 J.length c2).ownBlock = some k → w.heap.size ≤ k) := fun k hk => (ho2.2.lt k hk).1
          have HB2 : Hid (Below w.heap.size w w2) := hb2
          have hcell2 := (hb2.cell (World.block_lt_of_cell? w _ hcell)).trans hcell
          clear ho2 hb2 hcell c14 HJ57 HR56
          go_wp2_with fail
          refine (H58.out w2 HB2.out).mono ?_
          rintro r w3 ⟨rfl, hb3⟩
          have HB3 : Hid (Below w.heap.size w w3) := bnext HB2.out hb3
          have HO3 : Hid (Rd w3 (.slice a2 J.length c2) J) := HO2.out.below hb3
          clear hb3 hcell2 HO2 HB2
          go_wp2_with fail
          refine (HFr.out w3 _ HO3.out).mono ?_
          rintro r w4 ⟨v4, rfl, ⟨fs, f1, f2, f3⟩, hb4⟩
          obtain ⟨a4, c4, hv4⟩ := f1.len
          subst hv4
          have HB4 : Hid (Below w.heap.size w w4) := bnext HB3.out hb4
          have HO4 : Hid (Rd w4 (.slice a2 J.length c2) J) := HO3.out.below hb4
          clear f1 f2 f3 hb4 HO3 HB3
          go_wp2
          refine bodyPost_ret (results_tmp2 rfl _ _ _) rfl ⟨_, rfl, outR_nil _ _, HB4.out⟩
    · have e : stand (LL qs) gen seq = ([], 0) := stand_short (by rw [hhd]; exact h64)
      rw [e]
      rw [decide_eq_false h64] at HR56
      obtain ⟨sa, sc, hqv⟩ := hqr.len
      subst hqv
      rw [← hm] at hm1 hpos ⊢
      clear e h hqr h64 hhd hq hm
      go_enter Tryd.func63, Tryd.ntmps63
      go_wp2_with (go_at_call 71; go_must (refine HR56.out.mono ?_; rintro r w2 ⟨rfl, hw2⟩; replace hw2 := hw2.symm; subst hw2))
      refine bodyPost_ret (results_tmp2 rfl _ _ _) rfl ⟨_, rfl, outR_nil _ _, Below.refl _ _⟩
end Go.Proofs.YtkcighejmjgalaaDoor
