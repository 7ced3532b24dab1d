/-
  A journal by lists: parts of a record, frames, what stands in a stretch's sectors, its greatest round. No memory is named here.
-/
import Derived.Test.YtkcighejmjgalaaDoorDskM
namespace Go.Proofs.YtkcighejmjgalaaDoor
set_option linter.unusedVariables false
set_option linter.unusedSimpArgs false

/-! ### Numbers of four bytes -/
def U32 (n : Int) : Prop := 0 ≤ n ∧ n < 4294967296
def be4 (n : Int) : List Int := [n / 16777216, n / 65536 % 256, n / 256 % 256, n % 256]
def num4 (l : List Int) : Int := l.getD 0 0 * 16777216 + l.getD 1 0 * 65536 + l.getD 2 0 * 256 + l.getD 3 0
theorem be4_len (n : Int) : (be4 n).length = 4 := rfl
theorem be4_oct {n : Int} (h : U32 n) : Oct (be4 n) := by
  obtain ⟨h0, h1⟩ := h
  intro x hx
  simp only [be4, List.mem_cons, List.not_mem_nil, or_false] at hx
  rcases hx with rfl | rfl | rfl | rfl <;> omega
theorem num4_be4 (n : Int) (l : List Int) : num4 (be4 n ++ l) = n := by
  show n / 16777216 * 16777216 + n / 65536 % 256 * 65536 + n / 256 % 256 * 256 + n % 256 = n
  omega
theorem num4_u32 {l : List Int} (h : Oct l) : U32 (num4 l) := by
  have h0 := h.at 0
  have h1 := h.at 1
  have h2 := h.at 2
  have h3 := h.at 3
  unfold num4 U32
  omega

/-! ### Parts, frames -/
def partB (gen round seq i n : Int) (x : List Int) : List Int := 197 :: (be4 gen ++ (be4 round ++ (be4 seq ++ (i :: n :: (x.length : Int) :: (x ++ List.replicate (48 - x.length) 0)))))
section
variable {gen round seq i n : Int} {x : List Int}
theorem partB_len (hx : x.length ≤ 48) : (partB gen round seq i n x).length = 64 := by
  simp only [partB, be4, List.length_cons, List.length_append, List.length_replicate, List.length_nil]
  omega
theorem partB_oct (hg : U32 gen) (hr : U32 round) (hs : U32 seq) (hi : 0 ≤ i ∧ i < 256) (hn : 0 ≤ n ∧ n < 256) (hx : x.length ≤ 48) (ho : Oct x) : Oct (partB gen round seq i n x) := by
  refine Oct.cons (by omega) ((be4_oct hg).append ((be4_oct hr).append ((be4_oct hs).append (Oct.cons hi (Oct.cons hn (Oct.cons (by omega) (ho.append ?_)))))))
  intro y hy
  have := List.eq_of_mem_replicate hy
  omega
theorem partB_0 : (partB gen round seq i n x).getD 0 0 = 197 := rfl
theorem partB_gen : num4 ((partB gen round seq i n x).drop 1) = gen := num4_be4 gen _
theorem partB_round : num4 ((partB gen round seq i n x).drop 5) = round := num4_be4 round _
theorem partB_seq : num4 ((partB gen round seq i n x).drop 9) = seq := num4_be4 seq _
theorem partB_i : (partB gen round seq i n x).getD 13 0 = i := rfl
theorem partB_n : (partB gen round seq i n x).getD 14 0 = n := rfl
theorem partB_l : (partB gen round seq i n x).getD 15 0 = x.length := rfl
theorem partB_x : (partB gen round seq i n x).drop 16 = x ++ List.replicate (48 - x.length) 0 := rfl
end

def partsN (n : Nat) : Nat := if n = 0 then 1 else (n + 47) / 48
theorem partsN_pos (n : Nat) : 0 < partsN n := by unfold partsN; split <;> omega
theorem partsN_le {n : Nat} (h : n ≤ 4000) : partsN n ≤ 84 := by unfold partsN; split <;> omega
theorem partsN_all (n : Nat) : n ≤ 48 * partsN n := by unfold partsN; split <;> omega
def chunk (b : List Int) (i : Nat) : List Int := (b.drop (48 * i)).take 48
theorem chunk_len (b : List Int) (i : Nat) : (chunk b i).length ≤ 48 := by simp only [chunk, List.length_take]; omega
theorem chunk_oct {b : List Int} (h : Oct b) (i : Nat) : Oct (chunk b i) := (h.drop _).take _
def frameL (gen round seq : Int) (b : List Int) : List (List Int) := (List.range (partsN b.length)).map fun (i : Nat) => partB gen round seq i (partsN b.length : Nat) (chunk b i)
section
variable {gen round seq : Int} {b : List Int}
theorem frameL_len : (frameL gen round seq b).length = partsN b.length := by simp [frameL]
theorem frameL_at {i : Nat} (h : i < partsN b.length) : (frameL gen round seq b)[i]? = some (partB gen round seq i (partsN b.length : Nat) (chunk b i)) := by simp [frameL, h]
theorem frameL_mem {s : List Int} (h : s ∈ frameL gen round seq b) : ∃ i, i < partsN b.length ∧ s = partB gen round seq (i : Nat) (partsN b.length : Nat) (chunk b i) := by
  simp only [frameL, List.mem_map, List.mem_range] at h
  obtain ⟨i, hi, rfl⟩ := h
  exact ⟨i, hi, rfl⟩
theorem frameL_64 {s : List Int} (h : s ∈ frameL gen round seq b) : s.length = 64 := by
  obtain ⟨i, _, rfl⟩ := frameL_mem h
  exact partB_len (chunk_len _ _)
theorem frameL_oct (hg : U32 gen) (hr : U32 round) (hs : U32 seq) (hb : b.length ≤ 4000) (ho : Oct b) {s : List Int} (h : s ∈ frameL gen round seq b) : Oct s := by
  obtain ⟨i, hi, rfl⟩ := frameL_mem h
  have := partsN_le hb
  exact partB_oct hg hr hs (by omega) (by omega) (chunk_len _ _) (chunk_oct ho _)
end

/-! ### What sectors say they have -/
def bodyOf (s : List Int) : List Int := if s.length = 64 then (s.drop 16).take (min 48 (s.getD 15 0).toNat) else []
def joinL (l : List (List Int)) : List Int := l.flatMap bodyOf
theorem bodyOf_part {gen round seq i n : Int} {x : List Int} (hx : x.length ≤ 48) : bodyOf (partB gen round seq i n x) = x := by
  unfold bodyOf
  rw [if_pos (partB_len hx), partB_l, partB_x, Int.toNat_natCast, Nat.min_eq_right hx, List.take_left]
theorem chunks (b : List Int) : ∀ n : Nat, (List.range n).flatMap (chunk b) = b.take (48 * n)
  | 0 => by simp
  | n + 1 => by
    rw [List.range_succ, List.flatMap_append, chunks b n, show 48 * (n + 1) = 48 * n + 48 by omega, List.take_add]
    simp [chunk]
theorem join_frame (gen round seq : Int) (b : List Int) : joinL (frameL gen round seq b) = b := by
  unfold joinL frameL
  rw [List.flatMap_map]
  have e : (fun i : Nat => bodyOf (partB gen round seq i (partsN b.length : Nat) (chunk b i))) = chunk b := by
    funext i
    exact bodyOf_part (chunk_len _ _)
  rw [e, chunks, List.take_of_length_le (partsN_all _)]

theorem joinL_oct {l : List (List Int)} (h : ∀ s ∈ l, Oct s) : Oct (joinL l) := fun x hx => by
  simp only [joinL, List.mem_flatMap] at hx
  obtain ⟨s, hs, hx⟩ := hx
  unfold bodyOf at hx
  split at hx
  · exact h s hs x (List.mem_of_mem_drop (List.mem_of_mem_take hx))
  · cases hx
theorem joinL_len : ∀ l : List (List Int), (joinL l).length ≤ 48 * l.length
  | [] => by simp [joinL]
  | s :: l => by
    have h1 := joinL_len l
    have h2 : (bodyOf s).length ≤ 48 := by
      unfold bodyOf
      split
      · simp only [List.length_take]; omega
      · simp
    simp only [joinL, List.flatMap_cons, List.length_append, List.length_cons] at *
    omega

/-! ### What stands -/
/-- The record b stands at the begin of l, in n sectors. -/
def Stands (l : List (List Int)) (gen seq : Int) (b : List Int) (n : Nat) : Prop := ∃ r, r ≠ 0 ∧ gen ≠ 0 ∧ b.length ≤ 4000 ∧ n = partsN b.length ∧ l.take n = frameL gen r seq b
theorem Stands.le {l : List (List Int)} {gen seq : Int} {b : List Int} {n : Nat} (h : Stands l gen seq b n) : n ≤ l.length := by
  obtain ⟨r, _, _, _, rfl, e⟩ := h
  have := congrArg List.length e
  rw [frameL_len, List.length_take] at this
  omega
theorem Stands.pos {l : List (List Int)} {gen seq : Int} {b : List Int} {n : Nat} (h : Stands l gen seq b n) : 0 < n := by
  obtain ⟨r, _, _, _, rfl, e⟩ := h
  exact partsN_pos _
theorem Stands.pre {l l' : List (List Int)} {gen seq : Int} {b : List Int} {n : Nat} (h : Stands l gen seq b n) (e : l'.take n = l.take n) : Stands l' gen seq b n := by
  obtain ⟨r, h1, h2, h3, h4, h5⟩ := h
  exact ⟨r, h1, h2, h3, h4, e.trans h5⟩
/-- The i-th sector of a record that stands. -/
theorem Stands.at {l : List (List Int)} {gen seq : Int} {b : List Int} {n : Nat} (h : Stands l gen seq b n) : ∃ r, r ≠ 0 ∧ n = partsN b.length ∧ ∀ i, i < n → l[i]? = some (partB gen r seq i n (chunk b i)) := by
  obtain ⟨r, h1, h2, h3, rfl, h5⟩ := h
  refine ⟨r, h1, rfl, fun i hi => ?_⟩
  have := frameL_at (gen := gen) (round := r) (seq := seq) hi
  rw [← h5, List.getElem?_take, if_pos hi] at this
  exact this
def standR (l : List (List Int)) (gen seq r : Int) (n : Nat) : List Int × Nat := if (joinL (l.take n)).length ≤ 4000 ∧ gen ≠ 0 ∧ r ≠ 0 ∧ l.take n = frameL gen r seq (joinL (l.take n)) then (joinL (l.take n), n) else ([], 0)
def stand (l : List (List Int)) (gen seq : Int) : List Int × Nat := standR l gen seq (num4 ((l.headD []).drop 5)) ((l.headD []).getD 14 0).toNat
theorem Stands.eq {l : List (List Int)} {gen seq : Int} {b : List Int} {n : Nat} (h : Stands l gen seq b n) : stand l gen seq = (b, n) := by
  have hn := h.pos
  obtain ⟨r, hr, hg, hb, rfl, e⟩ := h
  have h0 : l[0]? = some (partB gen r seq (0 : Nat) (partsN b.length : Nat) (chunk b 0)) := by
    have := frameL_at (gen := gen) (round := r) (seq := seq) hn
    rw [← e, List.getElem?_take, if_pos hn] at this
    exact this
  have hh : l.headD [] = partB gen r seq (0 : Nat) (partsN b.length : Nat) (chunk b 0) := by
    cases l with
    | nil => cases h0
    | cons s t => exact Option.some.inj h0
  have ej : joinL (l.take (partsN b.length)) = b := by rw [e, join_frame]
  unfold stand
  rw [hh, partB_n, partB_round, Int.toNat_natCast]
  unfold standR
  rw [ej]
  exact if_pos ⟨hb, hg, hr, e⟩
theorem standR_zero {l : List (List Int)} {gen seq r : Int} {n : Nat} (h : (standR l gen seq r n).2 = 0) : standR l gen seq r n = ([], 0) := by
  by_cases hc : (joinL (l.take n)).length ≤ 4000 ∧ gen ≠ 0 ∧ r ≠ 0 ∧ l.take n = frameL gen r seq (joinL (l.take n))
  · exfalso
    unfold standR at h
    rw [if_pos hc] at h
    simp only at h
    subst h
    have := congrArg List.length hc.2.2.2
    rw [frameL_len] at this
    have := partsN_pos (joinL (l.take 0)).length
    simp at *
    omega
  · unfold standR
    rw [if_neg hc]
theorem stand_zero {l : List (List Int)} {gen seq : Int} (h : (stand l gen seq).2 = 0) : stand l gen seq = ([], 0) := standR_zero h
theorem stand_some {l : List (List Int)} {gen seq : Int} (h : (stand l gen seq).2 ≠ 0) : Stands l gen seq (stand l gen seq).1 (stand l gen seq).2 := by
  unfold stand at h ⊢
  generalize hn : ((l.headD []).getD 14 0).toNat = n at *
  generalize hr : num4 ((l.headD []).drop 5) = r at *
  by_cases hc : (joinL (l.take n)).length ≤ 4000 ∧ gen ≠ 0 ∧ r ≠ 0 ∧ l.take n = frameL gen r seq (joinL (l.take n))
  · have e9 : standR l gen seq r n = (joinL (l.take n), n) := if_pos hc
    rw [e9] at h ⊢
    obtain ⟨hb, hg, hr0, e⟩ := hc
    refine ⟨_, hr0, hg, hb, ?_, e⟩
    simp only at h ⊢
    have hp := partsN_pos (joinL (l.take n)).length
    have h0 := frameL_at (gen := gen) (round := r) (seq := seq) hp
    rw [← e, List.getElem?_take, if_pos (by omega)] at h0
    cases l with
    | nil => cases h0
    | cons s t =>
      have h3 : s = _ := Option.some.inj h0
      have h4 : s.getD 14 0 = _ := (congrArg (fun z : List Int => z.getD 14 0) h3).trans partB_n
      have h5 : (s.getD 14 0).toNat = n := hn
      have h6 : (s.getD 14 0).toNat = partsN (joinL (List.take n (s :: t))).length := by rw [h4, Int.toNat_natCast]
      exact h5.symm.trans h6
  · have e9 : standR l gen seq r n = ([], 0) := if_neg hc
    rw [e9] at h
    exact absurd rfl h
theorem stand_none {l : List (List Int)} {gen seq : Int} : (stand l gen seq).2 = 0 ↔ ∀ b n, ¬ Stands l gen seq b n := by
  constructor
  · intro h b n hs
    have := hs.pos
    rw [hs.eq] at h
    simp at h
    omega
  · intro h
    rcases Nat.eq_zero_or_pos (stand l gen seq).2 with h0 | h0
    · exact h0
    · exact absurd (stand_some (by omega)) (h _ _)
/-! ### The records of a stretch -/
def scanF : Nat → List (List Int) → Int → Nat → List (List Int) × Nat
  | 0, _, _, _ => ([], 0)
  | f + 1, l, gen, seq =>
    if (stand l gen seq).2 = 0 then ([], 0)
    else ((stand l gen seq).1 :: (scanF f (l.drop (stand l gen seq).2) gen (seq + 1)).1, (stand l gen seq).2 + (scanF f (l.drop (stand l gen seq).2) gen (seq + 1)).2)
theorem scanF_fuel : ∀ (f g : Nat) (l : List (List Int)) (gen : Int) (seq : Nat), l.length < f → l.length < g → scanF f l gen seq = scanF g l gen seq
  | 0, _, _, _, _, h, _ => absurd h (Nat.not_lt_zero _)
  | _ + 1, 0, _, _, _, _, h => absurd h (Nat.not_lt_zero _)
  | f + 1, g + 1, l, gen, seq, hf, hg => by
    unfold scanF
    split
    · rfl
    · rename_i h0
      have := (stand_some h0).le
      rw [scanF_fuel f g (l.drop (stand l gen seq).2) gen (seq + 1) (by rw [List.length_drop]; omega) (by rw [List.length_drop]; omega)]
def scanS (l : List (List Int)) (gen : Int) (seq : Nat) : List (List Int) × Nat := scanF (l.length + 1) l gen seq
def scan (l : List (List Int)) (gen : Int) : List (List Int) × Nat := scanS l gen 0
theorem scanS_none {l : List (List Int)} {gen : Int} {seq : Nat} (h : (stand l gen seq).2 = 0) : scanS l gen seq = ([], 0) := by
  unfold scanS scanF
  rw [if_pos h]
theorem scanS_some {l : List (List Int)} {gen : Int} {seq : Nat} {b : List Int} {n : Nat} (h : Stands l gen seq b n) : scanS l gen seq = (b :: (scanS (l.drop n) gen (seq + 1)).1, n + (scanS (l.drop n) gen (seq + 1)).2) := by
  have hn := h.pos
  have hl := h.le
  unfold scanS
  conv => lhs; unfold scanF
  rw [h.eq]
  simp only
  rw [if_neg (by omega), scanF_fuel l.length ((l.drop n).length + 1) _ _ _ (by rw [List.length_drop]; omega) (by omega)]
/-- Behind rs, which end at t. -/
def At (l : List (List Int)) (gen : Int) (seq : Nat) (rs : List (List Int)) (t : Nat) : Prop :=
  t ≤ l.length ∧ rs.length ≤ t ∧ scanS l gen seq = (rs ++ (scanS (l.drop t) gen (seq + rs.length)).1, t + (scanS (l.drop t) gen (seq + rs.length)).2)
theorem At.zero (l : List (List Int)) (gen : Int) (seq : Nat) : At l gen seq [] 0 := ⟨Nat.zero_le _, Nat.le_refl _, by simp⟩
theorem At.more {l : List (List Int)} {gen : Int} {seq : Nat} {rs : List (List Int)} {t : Nat} {b : List Int} {n : Nat} (h : At l gen seq rs t) (hs : Stands (l.drop t) gen ((seq + rs.length : Nat) : Int) b n) : At l gen seq (rs ++ [b]) (t + n) := by
  obtain ⟨h1, h2, h3⟩ := h
  have hn := hs.pos
  have hl := hs.le
  rw [List.length_drop] at hl
  refine ⟨by omega, by simp; omega, ?_⟩
  rw [h3, scanS_some hs, List.drop_drop]
  simp [Nat.add_assoc]
theorem At.stop {l : List (List Int)} {gen : Int} {seq : Nat} {rs : List (List Int)} {t : Nat} (h : At l gen seq rs t) (hs : (stand (l.drop t) gen ((seq + rs.length : Nat) : Int)).2 = 0) : scanS l gen seq = (rs, t) := by
  obtain ⟨h1, h2, h3⟩ := h
  rw [h3, scanS_none hs]
  simp
/-- The records of a scan, one behind the other, and what is at their end. -/
theorem scan_at : ∀ (f : Nat) (l : List (List Int)) (gen : Int) (seq : Nat), l.length < f → At l gen seq (scanS l gen seq).1 (scanS l gen seq).2 ∧ (stand (l.drop (scanS l gen seq).2) gen ((seq + (scanS l gen seq).1.length : Nat) : Int)).2 = 0
  | 0, _, _, _, h => absurd h (Nat.not_lt_zero _)
  | f + 1, l, gen, seq, hf => by
    by_cases h0 : (stand l gen seq).2 = 0
    · rw [scanS_none h0]
      exact ⟨At.zero l gen seq, by simpa using h0⟩
    · have hs := stand_some h0
      have hn := hs.pos
      have hl := hs.le
      obtain ⟨⟨a1, a2, a3⟩, a4⟩ := scan_at f (l.drop (stand l gen seq).2) gen (seq + 1) (by rw [List.length_drop]; omega)
      rw [scanS_some hs]
      generalize (stand l gen seq).1 = b at *
      generalize (stand l gen seq).2 = n at *
      generalize hq : scanS (l.drop n) gen (seq + 1) = q at *
      rw [List.length_drop] at a1
      rw [List.drop_drop] at a3 a4
      have e : seq + 1 + q.1.length = seq + (b :: q.1).length := by simp; omega
      rw [e] at a3 a4
      refine ⟨⟨by simp only; omega, by simp only [List.length_cons]; omega, ?_⟩, a4⟩
      have e2 := (Prod.ext_iff.1 a3)
      simp only at e2 ⊢
      rw [scanS_some hs]
      rw [hq]
      apply Prod.ext
      · simp only [List.cons_append]
        rw [← e2.1]
      · simp only
        rw [Nat.add_assoc, ← e2.2]
theorem scan_end (l : List (List Int)) (gen : Int) : At l gen 0 (scan l gen).1 (scan l gen).2 ∧ (stand (l.drop (scan l gen).2) gen ((scan l gen).1.length : Nat)).2 = 0 := by
  have := scan_at (l.length + 1) l gen 0 (by omega)
  simpa [scan] using this
/-- What stands up to t does so whatever is behind it. -/
theorem scan_keep : ∀ (f : Nat) (l l' : List (List Int)) (gen : Int) (seq : Nat), l.length < f → l'.take (scanS l gen seq).2 = l.take (scanS l gen seq).2 → At l' gen seq (scanS l gen seq).1 (scanS l gen seq).2
  | 0, _, _, _, _, h, _ => absurd h (Nat.not_lt_zero _)
  | f + 1, l, l', gen, seq, hf, e => by
    by_cases h0 : (stand l gen seq).2 = 0
    · rw [scanS_none h0]
      exact At.zero l' gen seq
    · have hs := stand_some h0
      have hn := hs.pos
      have hl := hs.le
      rw [scanS_some hs] at e ⊢
      generalize (stand l gen seq).1 = b at *
      generalize (stand l gen seq).2 = n at *
      simp only at e ⊢
      have e1 : l'.take n = l.take n := by
        have := congrArg (List.take n) e
        rwa [List.take_take, List.take_take, Nat.min_eq_left (by omega)] at this
      have e2 : (l'.drop n).take (scanS (l.drop n) gen (seq + 1)).2 = (l.drop n).take (scanS (l.drop n) gen (seq + 1)).2 := by
        have := congrArg (List.drop n) e
        rwa [List.drop_take, List.drop_take, Nat.add_sub_cancel_left] at this
      have hs' := hs.pre e1
      have hl' := hs'.le
      obtain ⟨a1, a2, a3⟩ := scan_keep f (l.drop n) (l'.drop n) gen (seq + 1) (by rw [List.length_drop]; omega) e2
      generalize scanS (l.drop n) gen (seq + 1) = q at *
      rw [List.length_drop] at a1
      refine ⟨by omega, by simp only [List.length_cons]; omega, ?_⟩
      rw [scanS_some hs', a3, List.drop_drop]
      have e3 : seq + 1 + q.1.length = seq + (b :: q.1).length := by simp; omega
      rw [e3]
      simp [Nat.add_assoc]

/-! ### The greatest round -/
def isPart (s : List Int) (gen : Int) : Bool := decide (s.length = 64) && decide (s.getD 0 0 = 197) && decide (num4 (s.drop 1) = gen)
def lateS (gen r : Int) (s : List Int) : Int := if isPart s gen then max r (num4 (s.drop 5)) else r
def latest (l : List (List Int)) (gen : Int) : Int := l.foldl (lateS gen) 0
theorem latest_snoc (l : List (List Int)) (s : List Int) (gen : Int) : latest (l ++ [s]) gen = lateS gen (latest l gen) s := by simp [latest, List.foldl_append]
theorem lateS_ge (gen r : Int) (s : List Int) : r ≤ lateS gen r s := by unfold lateS; split <;> omega
theorem fold_ge (gen : Int) : ∀ (l : List (List Int)) (r : Int), r ≤ l.foldl (lateS gen) r
  | [], r => Int.le_refl r
  | s :: l, r => Int.le_trans (lateS_ge gen r s) (fold_ge gen l _)
theorem fold_all (gen : Int) : ∀ (l : List (List Int)) (r : Int), ∀ s ∈ l, isPart s gen = true → num4 (s.drop 5) ≤ l.foldl (lateS gen) r
  | [], _, s, h, _ => by cases h
  | t :: l, r, s, h, hp => by
    rcases List.mem_cons.1 h with rfl | h
    · refine Int.le_trans ?_ (fold_ge gen l _)
      unfold lateS
      rw [if_pos hp]
      omega
    · exact fold_all gen l _ s h hp
theorem latest_all {l : List (List Int)} {gen : Int} {s : List Int} (h : s ∈ l) (hp : isPart s gen = true) : num4 (s.drop 5) ≤ latest l gen := fold_all gen l 0 s h hp
theorem fold_le (gen m : Int) : ∀ (l : List (List Int)) (r : Int), r ≤ m → (∀ s ∈ l, isPart s gen = true → num4 (s.drop 5) ≤ m) → l.foldl (lateS gen) r ≤ m
  | [], _, h, _ => h
  | s :: l, r, h, ha => by
    refine fold_le gen m l _ ?_ (fun t ht => ha t (List.mem_cons_of_mem _ ht))
    unfold lateS
    split
    · rename_i hp
      have := ha s (List.mem_cons_self ..) hp
      omega
    · exact h
theorem latest_le {l : List (List Int)} {gen m : Int} (h0 : 0 ≤ m) (h : ∀ s ∈ l, isPart s gen = true → num4 (s.drop 5) ≤ m) : latest l gen ≤ m := fold_le gen m l 0 h0 h
theorem latest_u32 {l : List (List Int)} (gen : Int) (h : ∀ s ∈ l, Oct s) : U32 (latest l gen) := by
  have h1 := fold_ge gen l 0
  have h2 : latest l gen ≤ 4294967295 := latest_le (by omega) (fun s hs _ => by have := num4_u32 ((h s hs).drop 5); unfold U32 at this; omega)
  exact ⟨h1, by omega⟩
theorem isPart_part {gen round seq i n : Int} {x : List Int} (hx : x.length ≤ 48) : isPart (partB gen round seq i n x) gen = true := by
  unfold isPart
  rw [partB_0, partB_gen, partB_len hx]
  simp
end Go.Proofs.YtkcighejmjgalaaDoor
