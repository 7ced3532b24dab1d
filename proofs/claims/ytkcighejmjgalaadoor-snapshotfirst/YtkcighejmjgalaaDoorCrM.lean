/-
  What crashes leave: records that stand ahead (Pre), sectors behind an Append that came through, or not; lists alone.
-/
import Derived.Test.YtkcighejmjgalaaDoorJrn4
namespace Go.Proofs.YtkcighejmjgalaaDoor
set_option linter.unusedVariables false
set_option linter.unusedSimpArgs false

/-! ### Records that stand, one behind the other -/
def Pre : List (List Int) → Int → Nat → List (List Int) → Nat → Prop
  | _, _, _, [], t => t = 0
  | l, gen, seq, b :: rs, t => ∃ n t', Stands l gen seq b n ∧ t = n + t' ∧ Pre (l.drop n) gen (seq + 1) rs t'
theorem Pre.keep : ∀ (rs : List (List Int)) (l l' : List (List Int)) (gen : Int) (seq t : Nat), Pre l gen seq rs t → l'.take t = l.take t → Pre l' gen seq rs t
  | [], _, _, _, _, _, h, _ => h
  | b :: rs, l, l', gen, seq, t, h, e => by
    obtain ⟨n, t', h1, rfl, h3⟩ := h
    have e1 : l'.take n = l.take n := by
      have := congrArg (List.take n) e
      rwa [List.take_take, List.take_take, Nat.min_eq_left (by omega)] at this
    have e2 : (l'.drop n).take t' = (l.drop n).take t' := by
      have := congrArg (List.drop n) e
      rwa [List.drop_take, List.drop_take, Nat.add_sub_cancel_left] at this
    exact ⟨n, t', h1.pre e1, rfl, Pre.keep rs _ _ gen (seq + 1) t' h3 e2⟩
theorem Pre.at : ∀ (rs : List (List Int)) (l : List (List Int)) (gen : Int) (seq t : Nat), Pre l gen seq rs t → At l gen seq rs t
  | [], l, gen, seq, t, h => by
    have h0 : t = 0 := h
    subst h0
    exact At.zero l gen seq
  | b :: rs, l, gen, seq, t, h => by
    obtain ⟨n, t', h1, rfl, h3⟩ := h
    obtain ⟨a1, a2, a3⟩ := Pre.at rs _ gen (seq + 1) t' h3
    have hn := h1.pos
    have hl := h1.le
    rw [List.length_drop] at a1
    refine ⟨by omega, by simp only [List.length_cons]; omega, ?_⟩
    rw [scanS_some h1, a3, List.drop_drop]
    have e3 : seq + 1 + rs.length = seq + (b :: rs).length := by simp; omega
    rw [e3]
    simp [Nat.add_assoc]
theorem Pre.snoc : ∀ (rs : List (List Int)) (l : List (List Int)) (gen : Int) (seq t n : Nat) (b : List Int), Pre l gen seq rs t → Stands (l.drop t) gen ((seq + rs.length : Nat) : Int) b n → Pre l gen seq (rs ++ [b]) (t + n)
  | [], l, gen, seq, t, n, b, h, hs => by
    have h0 : t = 0 := h
    subst h0
    exact ⟨n, 0, by simpa using hs, by omega, rfl⟩
  | c :: rs, l, gen, seq, t, n, b, h, hs => by
    obtain ⟨m, t', h1, rfl, h3⟩ := h
    refine ⟨m, t' + n, h1, by omega, Pre.snoc rs _ gen (seq + 1) t' n b h3 ?_⟩
    rw [List.drop_drop]
    have e3 : seq + 1 + rs.length = seq + (c :: rs).length := by simp; omega
    rw [e3]
    exact hs
theorem scan_preF : ∀ (f : Nat) (l : List (List Int)) (gen : Int) (seq : Nat) (q : List (List Int) × Nat), l.length < f → scanS l gen seq = q → Pre l gen seq q.1 q.2
  | 0, _, _, _, _, h, _ => absurd h (Nat.not_lt_zero _)
  | f + 1, l, gen, seq, q, hf, hq => by
    by_cases h0 : (stand l gen seq).2 = 0
    · rw [scanS_none h0] at hq
      subst hq
      exact rfl
    · have hs := stand_some h0
      have hn := hs.pos
      have hl := hs.le
      rw [scanS_some hs] at hq
      generalize (stand l gen seq).1 = b at *
      generalize (stand l gen seq).2 = n at *
      generalize hq2 : scanS (l.drop n) gen (seq + 1) = q2 at *
      have ih := scan_preF f (l.drop n) gen (seq + 1) q2 (by rw [List.length_drop]; omega) hq2
      subst hq
      show Pre l gen seq (b :: q2.1) (n + q2.2)
      exact ⟨n, q2.2, hs, rfl, ih⟩
theorem scan_pre (l : List (List Int)) (gen : Int) : Pre l gen 0 (scan l gen).1 (scan l gen).2 := scan_preF (l.length + 1) l gen 0 _ (by omega) rfl
/-- Nothing more stands behind them. -/
theorem Pre.stop {rs l : List (List Int)} {gen : Int} {t : Nat} (h : Pre l gen 0 rs t) (hs : (stand (l.drop t) gen (rs.length : Nat)).2 = 0) : scan l gen = (rs, t) :=
  (Pre.at rs l gen 0 t h).stop (by rw [Nat.zero_add]; exact hs)
/-- At least these. -/
theorem Pre.more {rs l : List (List Int)} {gen : Int} {t : Nat} (h : Pre l gen 0 rs t) : ∃ more, (scan l gen).1 = rs ++ more := by
  have := (Pre.at rs l gen 0 t h).2.2
  exact ⟨_, congrArg Prod.fst this⟩

/-! ### Sectors that are written -/
def putAll : List Sec → Nat → List (List Int) → List Sec
  | g, _, [] => g
  | g, p, s :: r => putAll (g.set p (mkS s)) (p + 1) r
def wrs : Nat → List (List Int) → List Wr
  | _, [] => []
  | p, s :: r => (p, mkS s) :: wrs (p + 1) r
theorem putAll_len : ∀ (F : List (List Int)) (g : List Sec) (p : Nat), (putAll g p F).length = g.length
  | [], _, _ => rfl
  | s :: r, g, p => by
    unfold putAll
    rw [putAll_len r, List.length_set]
theorem settle_put : ∀ (F : List (List Int)) (k p : Nat) (g : List Sec), settle (fun _ => true) k (wrs p F) g = putAll g p F
  | [], _, _, _ => rfl
  | s :: r, k, p, g => by
    unfold wrs settle putAll
    rw [if_pos rfl]
    exact settle_put r (k + 1) (p + 1) _
theorem putAll_at : ∀ (F : List (List Int)) (g : List Sec) (p i : Nat), p + F.length ≤ g.length → (putAll g p F)[i]? = if p ≤ i ∧ i < p + F.length then (F[i - p]?).map mkS else g[i]?
  | [], g, p, i, h => by
    rw [if_neg (by simp only [List.length_nil]; omega)]
    rfl
  | s :: r, g, p, i, h => by
    unfold putAll
    simp only [List.length_cons] at h ⊢
    rw [putAll_at r _ (p + 1) i (by rw [List.length_set]; omega)]
    by_cases h1 : p + 1 ≤ i ∧ i < p + 1 + r.length
    · rw [if_pos h1, if_pos (by omega), show i - p = (i - (p + 1)) + 1 by omega]
      rfl
    · rw [if_neg h1]
      by_cases h2 : i = p
      · subst h2
        rw [if_pos (by omega), List.getElem?_set_self (by omega), Nat.sub_self]
        rfl
      · rw [if_neg (by omega), List.getElem?_set_ne (by omega)]
/-- What a place has behind some writes: what it had, or one of these. -/
theorem settle_at (keep : Nat → Bool) : ∀ (l : List Wr) (k : Nat) (g : List Sec) (i : Nat) (s : Sec), (settle keep k l g)[i]? = some s → g[i]? = some s ∨ (i, s) ∈ l
  | [], _, _, _, _, h => .inl h
  | q :: r, k, g, i, s, h => by
    unfold settle at h
    rcases settle_at keep r (k + 1) _ i s h with h1 | h1
    · split at h1
      · by_cases e : q.1 = i
        · have hlt : i < g.length := by
            have := (List.getElem?_eq_some_iff.1 h1).1
            rwa [List.length_set] at this
          rw [e, List.getElem?_set_self hlt] at h1
          refine .inr (List.mem_cons.2 (.inl ?_))
          rw [← e, ← Option.some.inj h1]
        · rw [List.getElem?_set_ne e] at h1
          exact .inl h1
      · exact .inl h1
    · exact .inr (List.mem_cons_of_mem _ h1)
theorem wrs_mem : ∀ (F : List (List Int)) (p i : Nat) (s : Sec), (i, s) ∈ wrs p F → p ≤ i ∧ ∃ x, F[i - p]? = some x ∧ s = mkS x
  | [], _, _, _, h => by cases h
  | x :: r, p, i, s, h => by
    unfold wrs at h
    rcases List.mem_cons.1 h with h | h
    · cases h
      exact ⟨Nat.le_refl _, x, by rw [Nat.sub_self]; rfl, rfl⟩
    · obtain ⟨h1, y, h2, h3⟩ := wrs_mem r (p + 1) i s h
      refine ⟨by omega, y, ?_, h3⟩
      rw [show i - p = (i - (p + 1)) + 1 by omega]
      exact h2

/-! ### A disk on which nothing is pending -/
structure Clean (D : Dk) : Prop where
  p : D.pend = []
  g : D.good = D.now
  d : D.down = false
/-- What writing all of them leaves: all are there, or it went down in the midst of the k-th. -/
theorem wr_cases : ∀ (F : List (List Int)) (D : Dk) (p : Nat), D.down = false → (∀ s ∈ F, s.length = 64) → p + F.length ≤ D.now.length →
    (∃ D', wrAll F D p = (0, D') ∧ D'.down = false ∧ D'.pend = [] ∧ D'.now = putAll D.now p F ∧ D'.good = settle (fun _ => true) 0 (D.pend ++ wrs p F) D.good ∧ D'.armed = D.armed) ∨
    (D.armed = true ∧ ∃ k, k < F.length ∧ ∃ D', wrAll F D p = (19, D') ∧ D'.down = true ∧ D'.good = D.good ∧ D'.pend = D.pend ++ wrs p (F.take k) ++ [(p + k, ts)])
  | [], D, p, hd, _, _ => by
    refine .inl ⟨D.settled (fun _ => true), ?_, hd, rfl, rfl, by simp [Dk.settled, wrs], rfl⟩
    unfold wrAll Dk.sync
    rw [hd]
    rfl
  | s :: r, D, p, hd, h64, hl => by
    simp only [List.length_cons] at hl
    have hreach : D.reach (p : Int) = 0 := by
      unfold Dk.reach
      rw [hd, if_neg (by simp), if_neg (by omega)]
    have h6 := h64 s (List.mem_cons_self ..)
    by_cases ha : D.armed = true ∧ D.left = 0
    · have hw : D.write (p : Int) s = (19, D.fall p) := by
        unfold Dk.write
        rw [if_neg (by simp [hreach]), if_neg (by simp [h6]), if_pos ha, Int.toNat_natCast]
      refine .inr ⟨ha.1, 0, by simp, D.fall p, ?_, rfl, rfl, ?_⟩
      · unfold wrAll
        rw [hw, if_pos (by simp)]
      · simp [wrs, Dk.fall]
    · have hw : D.write (p : Int) s = (0, D.put p (mkS s)) := by
        unfold Dk.write
        rw [if_neg (by simp [hreach]), if_neg (by simp [h6]), if_neg ha, Int.toNat_natCast]
      have e : wrAll (s :: r) D p = wrAll r (D.put p (mkS s)) (p + 1) := by
        conv => lhs; unfold wrAll
        rw [hw, if_neg (by simp)]
      rcases wr_cases r (D.put p (mkS s)) (p + 1) hd (fun x hx => h64 x (List.mem_cons_of_mem _ hx)) (by simp only [Dk.put, List.length_set]; omega) with ⟨D', h1, h2, h3, h4, h5, h7⟩ | ⟨h0, k, hk, D', h1, h2, h3, h4⟩
      · refine .inl ⟨D', e.trans h1, h2, h3, h4, ?_, h7⟩
        rw [h5]
        simp only [Dk.put]
        rw [List.append_assoc]
        rfl
      · refine .inr ⟨h0, k + 1, by simp; omega, D', e.trans h1, h2, h3, ?_⟩
        rw [h4]
        simp only [Dk.put, List.take_succ_cons, wrs]
        simp [Nat.add_assoc, Nat.add_comm 1 k]

/-! ### Contents -/
theorem secB_mk {s : List Int} (h : s.length = 64) (ho : Oct s) : secB (mkS s) = s := by rw [mkS_eq h ho]; rfl
theorem secB_ts : secB ts = [] := rfl
theorem cont_get {D : Dk} {base size j : Nat} {s : List Int} (h : (cont D base size)[j]? = some s) : j < size ∧ ∃ x, D.now[base + j]? = some x ∧ s = secB x := by
  unfold cont at h
  rw [List.getElem?_map, List.getElem?_take] at h
  split at h
  · rename_i hj
    rw [List.getElem?_drop] at h
    cases hx : D.now[base + j]? with
    | none => rw [hx] at h; cases h
    | some x => rw [hx] at h; exact ⟨hj, x, rfl, (Option.some.inj h).symm⟩
  · cases h
theorem cont_of {D : Dk} {base size j : Nat} {x : Sec} (hj : j < size) (h : D.now[base + j]? = some x) : (cont D base size)[j]? = some (secB x) := by
  unfold cont
  rw [List.getElem?_map, List.getElem?_take, if_pos hj, List.getElem?_drop, h]
  rfl
/-- All that was written is there. -/
theorem cont_put {D D' : Dk} {base size t : Nat} {F : List (List Int)} (hn : D'.now = putAll D.now (base + t) F) (hl : base + size ≤ D.now.length) (ht : t + F.length ≤ size) (h64 : ∀ s ∈ F, s.length = 64 ∧ Oct s) :
    (cont D' base size).take t = (cont D base size).take t ∧ ((cont D' base size).drop t).take F.length = F ∧ (∀ j, t + F.length ≤ j → (cont D' base size)[j]? = (cont D base size)[j]?) := by
  have hget : ∀ j, j < size → D'.now[base + j]? = if base + t ≤ base + j ∧ base + j < base + t + F.length then (F[base + j - (base + t)]?).map mkS else D.now[base + j]? := fun j hj => by rw [hn]; exact putAll_at F D.now (base + t) (base + j) (by omega)
  have hout : ∀ j, ¬ (t ≤ j ∧ j < t + F.length) → (cont D' base size)[j]? = (cont D base size)[j]? := fun j hj => by
    unfold cont
    rw [List.getElem?_map, List.getElem?_map, List.getElem?_take, List.getElem?_take]
    by_cases h : j < size
    · rw [if_pos h, if_pos h, List.getElem?_drop, List.getElem?_drop, hget j h, if_neg (by omega)]
    · rw [if_neg h, if_neg h]
  refine ⟨?_, ?_, fun j hj => hout j (by omega)⟩
  · apply List.ext_getElem?
    intro j
    rw [List.getElem?_take, List.getElem?_take]
    split
    · exact hout j (by omega)
    · rfl
  · apply List.ext_getElem?
    intro j
    rw [List.getElem?_take]
    by_cases hj : j < F.length
    · rw [if_pos hj, List.getElem?_drop]
      unfold cont
      rw [List.getElem?_map, List.getElem?_take, if_pos (by omega), List.getElem?_drop, hget (t + j) (by omega), if_pos (by omega), show base + (t + j) - (base + t) = j by omega, List.getElem?_eq_getElem hj]
      have := h64 F[j] (List.getElem_mem hj)
      simp only [Option.map_some]
      rw [secB_mk this.1 this.2]
    · rw [if_neg hj, List.getElem?_eq_none (by omega)]
/-- Behind a crash in the midst of the k-th, and a restart. -/
theorem cont_crash {D D' : Dk} {base size t k : Nat} {F : List (List Int)} {ks : List Bool} (hc : Clean D) (hg : D'.good = D.good) (hp : D'.pend = D.pend ++ wrs (base + t) (F.take k) ++ [(base + t + k, ts)]) (h64 : ∀ s ∈ F, s.length = 64 ∧ Oct s) :
    ∀ j s, (cont (D'.restart ks) base size)[j]? = some s → (cont D base size)[j]? = some s ∨ (∃ i, i < k ∧ j = t + i ∧ F[i]? = some s) ∨ (j = t + k ∧ s = []) := fun j s h => by
  obtain ⟨hj, x, hx, rfl⟩ := cont_get h
  have hx' : (settle (keeps ks) 0 D'.pend D'.good)[base + j]? = some x := hx
  rw [hg, hp, hc.p, hc.g, List.nil_append] at hx'
  rcases settle_at _ _ _ _ _ _ hx' with h1 | h1
  · exact .inl (cont_of hj h1)
  · rcases List.mem_append.1 h1 with h1 | h1
    · obtain ⟨h2, y, h3, rfl⟩ := wrs_mem _ _ _ _ h1
      rw [List.getElem?_take] at h3
      split at h3
      · rename_i hk
        refine .inr (.inl ⟨base + j - (base + t), hk, by omega, ?_⟩)
        have := h64 y (List.mem_of_getElem? h3)
        rw [secB_mk this.1 this.2]
        exact h3
      · cases h3
    · simp at h1
      obtain ⟨h2, rfl⟩ := h1
      exact .inr (.inr ⟨by omega, secB_ts⟩)
theorem restart_clean (D : Dk) (ks : List Bool) : Clean (D.restart ks) := ⟨rfl, rfl, rfl⟩
theorem restart_len {D : Dk} {ks : List Bool} (h : D.good.length = D.now.length) : (D.restart ks).now.length = D.now.length := by simp [Dk.restart, settle_len, h]

/-! ### Nothing stands of what was broken off -/
theorem stands_of {l : List (List Int)} {gen r seq : Int} {b : List Int} {n : Nat} (hr : r ≠ 0) (hg : gen ≠ 0) (hb : b.length ≤ 4000) (hn : n = partsN b.length) (h : ∀ i, i < n → l[i]? = some (partB gen r seq i n (chunk b i))) : Stands l gen seq b n := by
  refine ⟨r, hr, hg, hb, hn, ?_⟩
  apply List.ext_getElem?
  intro i
  rw [List.getElem?_take]
  by_cases hi : i < n
  · rw [if_pos hi, h i hi, hn]
    exact (frameL_at (by omega)).symm
  · rw [if_neg hi, List.getElem?_eq_none (by rw [frameL_len]; omega)]
theorem crash_none {C C' : List (List Int)} {gen R : Int} {seq t k : Nat} {b : List Int} (hk : k < partsN b.length)
    (each : ∀ j s, C'[j]? = some s → C[j]? = some s ∨ (∃ i, i < k ∧ j = t + i ∧ (frameL gen R seq b)[i]? = some s) ∨ (j = t + k ∧ s = []))
    (old : ∀ j s, t ≤ j → C[j]? = some s → isPart s gen = true → num4 (s.drop 5) < R)
    (none : (stand (C.drop t) gen seq).2 = 0) : (stand (C'.drop t) gen seq).2 = 0 := by
  refine stand_none.2 fun b' n' hs => ?_
  have hg : gen ≠ 0 := by obtain ⟨_, _, h2, _⟩ := hs; exact h2
  have hb' : b'.length ≤ 4000 := by obtain ⟨_, _, _, h3, _⟩ := hs; exact h3
  have hpos := hs.pos
  obtain ⟨r, hr, hn', hat⟩ := hs.at
  have hC : ∀ i, i < n' → C'[t + i]? = some (partB gen r seq i n' (chunk b' i)) := fun i hi => by
    have := hat i hi
    rwa [List.getElem?_drop] at this
  by_cases hrR : r = R
  · subst hrR
    have key : ∀ i, i < n' → i < k ∧ (frameL gen r seq b)[i]? = some (partB gen r seq i n' (chunk b' i)) := fun i hi => by
      rcases each _ _ (hC i hi) with h | ⟨i', h1, h2, h3⟩ | ⟨_, h⟩
      · have := old _ _ (by omega) h (isPart_part (chunk_len _ _))
        rw [partB_round] at this
        omega
      · have : i' = i := by omega
        subst this
        exact ⟨h1, h3⟩
      · cases h
    have h0 := (key 0 hpos).2
    rw [frameL_at (partsN_pos _)] at h0
    have h14 := congrArg (fun z : List Int => z.getD 14 0) (Option.some.inj h0)
    simp only [partB_n] at h14
    have := (key k (by omega)).1
    omega
  · refine stand_none.1 none b' n' (stands_of hr hg hb' hn' fun i hi => ?_)
    rw [List.getElem?_drop]
    rcases each _ _ (hC i hi) with h | ⟨i', h1, h2, h3⟩ | ⟨_, h⟩
    · exact h
    · obtain ⟨i'', _, h5⟩ := frameL_mem (List.mem_of_getElem? h3)
      have := congrArg (fun z : List Int => num4 (z.drop 5)) h5
      simp only [partB_round] at this
      exact absurd this hrR
    · cases h
end Go.Proofs.YtkcighejmjgalaaDoor
