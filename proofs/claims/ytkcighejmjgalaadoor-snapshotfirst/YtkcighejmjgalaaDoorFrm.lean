/-
  Slices of slices of bytes (RL); Parts and Frame of the program.
-/
import Derived.Test.YtkcighejmjgalaaDoorSht
namespace Go.Proofs.YtkcighejmjgalaaDoor
set_option linter.unusedVariables false
set_option linter.unusedSimpArgs false
set_option synthInstance.maxSize 20000
set_option maxHeartbeats 2000000
set_option maxRecDepth 20000
open Go.RowKit Go.Maps

/-- A slice value, and the bytes that it reads as. -/
abbrev VB := Value × List Int
def nilv : Value := .slice none 0 0
def lc (q : VB) : List Value := [q.1]
theorem lc_len (q : VB) : (lc q).length = 1 := rfl
theorem flat_lc (qs : List VB) : flat lc qs = qs.map (·.1) := by
  induction qs with
  | nil => rfl
  | cons q qs ih => rw [flat_cons, ih]; rfl
/-- v shows slices that read as bytes. -/
structure RL (w : World) (v : Value) (qs : List VB) : Prop where
  row : RowF lc w v qs
  rd : ∀ q ∈ qs, Rd w q.1 q.2
def LL (qs : List VB) : List (List Int) := qs.map (·.2)
theorem LL_len (qs : List VB) : (LL qs).length = qs.length := by simp [LL]
theorem LL_at {qs : List VB} {i : Nat} {q : VB} (h : qs[i]? = some q) : (LL qs)[i]? = some q.2 := by simp [LL, h]
/-- All of it lies in blocks from B on. -/
structure NewQ (B : Nat) (v : Value) (qs : List VB) : Prop where
  row : ∀ k, v.ownBlock = some k → B ≤ k
  el : ∀ q ∈ qs, ∀ k, q.1.ownBlock = some k → B ≤ k
theorem NewQ.mono {B C : Nat} {v : Value} {qs : List VB} (h : NewQ B v qs) (hc : C ≤ B) : NewQ C v qs := ⟨fun k hk => Nat.le_trans hc (h.row k hk), fun q hq k hk => Nat.le_trans hc (h.el q hq k hk)⟩
theorem newQ_nil (B : Nat) : NewQ B nilv [] := ⟨(fun k hk => by cases hk), fun q hq => by cases hq⟩
theorem rl_nil (w : World) : RL w nilv [] := ⟨rowF_nil w, fun q hq => by cases hq⟩
theorem RL.below {w w' : World} {v : Value} {qs : List VB} (h : RL w v qs) (hb : Below w.heap.size w w') : RL w' v qs := ⟨h.row.below hb, fun q hq => (h.rd q hq).below hb⟩
theorem RL.len {w : World} {v : Value} {qs : List VB} (h : RL w v qs) : ∃ a cap, v = .slice a qs.length cap := h.row.len
theorem RL.oct {w : World} {v : Value} {qs : List VB} (h : RL w v qs) : ∀ s ∈ LL qs, Oct s := fun s hs => by
  simp only [LL, List.mem_map] at hs
  obtain ⟨q, hq, rfl⟩ := hs
  exact (h.rd q hq).oct
/-- The cell of one of them. -/
theorem RL.at {w : World} {a : Option Addr} {n cap : Nat} {qs : List VB} (h : RL w (.slice a n cap) qs) {i : Nat} {q : VB} (hi : qs[i]? = some q) : ∃ b off, a = some ⟨b, off, none⟩ ∧ w.cell? ⟨b, off + i, none⟩ = some q.1 := by
  obtain ⟨b, off, e, hr⟩ := h.row.at lc_len hi
  refine ⟨b, off, e, ?_⟩
  have := hr 0 q.1 rfl
  simpa using this
theorem blk_rl {w : World} {g : Nat} {qs : List VB} (h : Blk w g 30 (qs.map (·.1))) (hr : ∀ q ∈ qs, Rd w q.1 q.2) (hl : qs.length ≤ 100000) : RL w (.slice (some ⟨g, 0, none⟩) qs.length qs.length) qs :=
  ⟨⟨some ⟨g, 0, none⟩, qs.length, rfl, Nat.le_refl _, by unfold maxLen; omega, (fun h => by cases h), fun _ => ⟨g, 0, rfl, by rw [flat_lc]; exact h.range0⟩⟩, hr⟩
theorem ty25 : RowTy 31 30 1 24 nilv := ⟨by kernel_rfl, by kernel_rfl, rfl, by omega⟩
theorem flat_nils (n : Nat) : flat lc (List.replicate n (nilv, [])) = List.replicate n nilv := by rw [flat_lc]; simp
theorem exec_make25 {o : Oper} {r : Operand → Value} {w : World} {n : Nat} (l c : Operand) (ho : o.op = .makeSlice 31 l c) (hl : r l = .int .i64 (n : Int)) (hc : r c = .int .i64 (n : Int)) (hn : n ≤ 400) :
    (execOp r o).run Tryd.prog w = .ok (.value (.slice (some ⟨w.heap.size, 0, none⟩) n n)) (w.alloc (.cells (List.replicate n nilv).toArray 30)) := by
  have h := run_make_rows ty25 lc_len (nilv, []) rfl w n (by omega) (by omega)
  rw [flat_nils] at h
  unfold execOp
  simp only [ho, hl, hc, Sem.run_bind, h, Result.andThen_ok, Sem.run_pure]

/-! ### Parts -/
def partsI (n : Int) : Int := if n < 0 ∨ 4000 < n then 0 else if n = 0 then 1 else (n + 47) / 48
theorem partsI_nat {n : Nat} (h : n ≤ 4000) : partsI n = (partsN n : Nat) := by
  unfold partsI partsN
  rw [if_neg (by omega)]
  by_cases h0 : n = 0
  · subst h0; rfl
  · rw [if_neg (by omega), if_neg h0]
    omega
theorem partsI_big {n : Nat} (h : 4000 < n) : partsI n = 0 := by unfold partsI; rw [if_pos (by omega)]
theorem parts13 (n : Int) (w : World) (hn : I64 n) : Calls Tryd.prog 47 #[.int .i64 n] w fun r w' => r = .returned (.int .i64 (partsI n)) ∧ w' = w := by
  obtain ⟨n0, n1⟩ := hn
  by_cases h : n < 0
  · have e : partsI n = 0 := by unfold partsI; rw [if_pos (.inl h)]
    rw [e]
    clear e
    go_enter Tryd.func47, Tryd.ntmps47
    go_wp2
    go_ret
    exact ⟨rfl, rfl⟩
  · by_cases h2 : 4000 < n
    · have e : partsI n = 0 := by unfold partsI; rw [if_pos (.inr h2)]
      rw [e]
      clear e
      go_enter Tryd.func47, Tryd.ntmps47
      go_wp2
      go_ret
      exact ⟨rfl, rfl⟩
    · have E : Hid (partsI n = if 1 < (n + 47) / 48 then (n + 47) / 48 else 1) := by
        show partsI n = _
        unfold partsI
        rw [if_neg (by omega)]
        split <;> split <;> omega
      rw [E.out]
      clear E
      go_enter Tryd.func47, Tryd.ntmps47
      go_wp2
      all_goals
        go_ret
        refine ⟨?_, rfl⟩
        first
          | rfl
          | (rw [show n + 48 - 1 = n + 47 by omega]; rfl)

/-! ### Frame -/
def frameK (gen round : Int) (b : List Int) : Int := if 4000 < b.length then 3 else if gen = 0 ∨ round = 0 then 1 else 0
def frameB (gen round seq : Int) (b : List Int) : List (List Int) := if frameK gen round b = 0 then frameL gen round seq b else []
theorem frameK_zero {gen round : Int} {b : List Int} : frameK gen round b = 0 ↔ b.length ≤ 4000 ∧ gen ≠ 0 ∧ round ≠ 0 := by
  unfold frameK
  split
  · constructor
    · intro h; omega
    · intro h; omega
  · split
    · constructor
      · intro h; omega
      · rintro ⟨_, h1, h2⟩; omega
    · rename_i h1 h2
      constructor
      · intro _; omega
      · intro _; rfl
theorem frame_none {gen round seq : Int} {b : List Int} (h : frameK gen round b ≠ 0) : frameB gen round seq b = [] := if_neg h
theorem frame_some {gen round seq : Int} {b : List Int} (h : frameK gen round b = 0) : frameB gen round seq b = frameL gen round seq b := if_pos h
theorem take_frame {gen round seq : Int} {b : List Int} {k : Nat} (h : k < partsN b.length) : (frameL gen round seq b).take (k + 1) = (frameL gen round seq b).take k ++ [partB gen round seq k (partsN b.length : Nat) (chunk b k)] := by
  have h1 := frameL_at (gen := gen) (round := round) (seq := seq) h
  have h2 : k < (frameL gen round seq b).length := by rw [frameL_len]; exact h
  rw [List.take_succ_eq_append_getElem h2]
  rw [List.getElem?_eq_getElem h2] at h1
  rw [Option.some.inj h1]
/-- What Frame has behind k rounds. -/
structure FrmK (w wr : World) (g : Nat) (gen round seq : Int) (b : List Int) (k : Nat) (qs : List VB) : Prop where
  len : qs.length = k
  ll : LL qs = (frameL gen round seq b).take k
  rd : ∀ q ∈ qs, Rd wr q.1 q.2
  new : ∀ q ∈ qs, ∀ j, q.1.ownBlock = some j → g < j
  blk : Blk wr g 30 (qs.map (·.1) ++ List.replicate (partsN b.length - k) nilv)
  bel : Below w.heap.size w wr
theorem set_nils {vs : List Value} {m k : Nat} (hl : vs.length = k) (hk : k < m) (v : Value) : (vs ++ List.replicate (m - k) nilv).set k v = vs ++ [v] ++ List.replicate (m - (k + 1)) nilv := by
  rw [List.set_append_right _ _ (by omega), hl, Nat.sub_self, show m - k = m - (k + 1) + 1 by omega, List.replicate_succ, List.set_cons_zero]
  simp
theorem FrmK.step {w wr w2 : World} {g : Nat} {gen round seq : Int} {b : List Int} {k : Nat} {qs : List VB} (h : FrmK w wr g gen round seq b k qs) (hg : w.heap.size ≤ g) (hk : k < partsN b.length) {v : Value}
    (hr : Rd w2 v (partB gen round seq k (partsN b.length : Nat) (chunk b k))) (hn : ∀ j, v.ownBlock = some j → wr.heap.size ≤ j) (hb : Below wr.heap.size wr w2) : FrmK w (w2.setCell ⟨g, k, none⟩ v) g gen round seq b (k + 1) (qs ++ [(v, partB gen round seq k (partsN b.length : Nat) (chunk b k))]) := by
  have hB2 := h.blk.below hb
  have hgl := h.blk.lt
  have hG := grown_setCell w2 g k v
  have hB3 := hB2.set k v
  rw [set_nils (by simp [h.len]) hk] at hB3
  refine ⟨by simp [h.len], ?_, fun q hq => ?_, fun q hq j hj => ?_, by simpa using hB3, bgrown (bnext h.bel hb) hg hG⟩
  · rw [take_frame hk, ← h.ll]
    simp [LL]
  · rcases List.mem_append.1 hq with hq | hq
    · refine ((h.rd q hq).below hb).kept hG (fun j hj e => ?_)
      cases hj
      exact Nat.lt_irrefl _ (h.new q hq g e)
    · simp at hq
      subst hq
      refine hr.kept hG (fun j hj e => ?_)
      cases hj
      have := hn g e
      omega
  · rcases List.mem_append.1 hq with hq | hq
    · exact h.new q hq j hj
    · simp at hq
      subst hq
      have := hn j hj
      omega
theorem FrmK.done {w wr : World} {g : Nat} {gen round seq : Int} {b : List Int} {qs : List VB} (h : FrmK w wr g gen round seq b (partsN b.length) qs) (hg : w.heap.size ≤ g) (hb : b.length ≤ 4000) : RL wr (.slice (some ⟨g, 0, none⟩) (partsN b.length) (partsN b.length)) qs ∧ LL qs = frameL gen round seq b ∧ NewQ w.heap.size (.slice (some ⟨g, 0, none⟩) (partsN b.length) (partsN b.length)) qs := by
  have hp := partsN_le hb
  have h1 := h.blk
  rw [Nat.sub_self, List.replicate_zero, List.append_nil] at h1
  have h2 := blk_rl h1 h.rd (by rw [h.len]; omega)
  rw [h.len] at h2
  refine ⟨h2, ?_, ⟨fun k hk => ?_, fun q hq k hk => by have := h.new q hq k hk; omega⟩⟩
  · rw [h.ll, List.take_of_length_le (by rw [frameL_len]; exact Nat.le_refl _)]
  · have := Option.some.inj hk
    simp at this
    omega

theorem nils_at {vs : List Value} {m k : Nat} (hl : vs.length = k) (hk : k < m) : (vs ++ List.replicate (m - k) nilv)[k]? = some nilv := by
  rw [List.getElem?_append_right (by omega), hl, Nat.sub_self, List.getElem?_replicate, if_pos (by omega)]
theorem FrmK.round {w wr w2 : World} {gen round seq : Int} {b : List Int} {k m : Nat} {qs : List VB} {v2 : Value} (h : FrmK w wr w.heap.size gen round seq b k qs) (hM : m = partsN b.length) (hk : k < m)
    (hr : Rd w2 v2 (partB gen round seq k m (chunk b k))) (hn : ∀ j, v2.ownBlock = some j → wr.heap.size ≤ j) (hb : Below wr.heap.size wr w2) :
    w2.cell? ⟨w.heap.size, k, none⟩ = some nilv ∧ w2.frozen? ⟨w.heap.size, k, none⟩ = false ∧ FrmK w (w2.setCell ⟨w.heap.size, k, none⟩ v2) w.heap.size gen round seq b (k + 1) (qs ++ [(v2, partB gen round seq k m (chunk b k))]) := by
  subst hM
  have hB2 := h.blk.below hb
  exact ⟨hB2.cell k nilv (nils_at (by simp [h.len]) hk), hB2.frozen k, h.step (Nat.le_refl _) hk hr hn hb⟩
theorem drop_chunk (b : List Int) (k : Nat) : (b.drop (48 * k)).drop (min 48 (b.drop (48 * k)).length) = b.drop (48 * (k + 1)) := by
  rw [List.drop_drop, List.length_drop]
  by_cases h : 48 ≤ b.length - 48 * k
  · rw [Nat.min_eq_left h, show 48 * k + 48 = 48 * (k + 1) by omega]
  · rw [Nat.min_eq_right (by omega), List.drop_of_length_le (by omega), List.drop_of_length_le (by omega)]
theorem take_chunk (b : List Int) (k : Nat) : (b.drop (48 * k)).take (min 48 (b.drop (48 * k)).length) = chunk b k := by
  unfold chunk
  by_cases h : 48 ≤ (b.drop (48 * k)).length
  · rw [Nat.min_eq_left h]
  · rw [Nat.min_eq_right (by omega), List.take_of_length_le (Nat.le_refl _), List.take_of_length_le (by omega)]
/-- What is handed out: slices that read as L, in new memory. -/
def OutL (B : Nat) (w' : World) (v : Value) (L : List (List Int)) : Prop := ∃ qs, RL w' v qs ∧ LL qs = L ∧ NewQ B v qs
theorem outL_nil (B : Nat) (w : World) : OutL B w nilv [] := ⟨[], rl_nil w, rfl, newQ_nil _⟩
theorem OutL.mono {B C : Nat} {w : World} {v : Value} {L : List (List Int)} (h : OutL B w v L) (hc : C ≤ B) : OutL C w v L := by
  obtain ⟨qs, h1, h2, h3⟩ := h
  exact ⟨qs, h1, h2, h3.mono hc⟩
theorem OutL.below {B : Nat} {w w' : World} {v : Value} {L : List (List Int)} (h : OutL B w v L) (hb : Below w.heap.size w w') : OutL B w' v L := by
  obtain ⟨qs, h1, h2, h3⟩ := h
  exact ⟨qs, h1.below hb, h2, h3⟩
theorem frame10 {w : World} {gen round seq : Int} {bv : Value} {b : List Int} (hg : U32 gen) (hr : U32 round) (hs : U32 seq) (hb : Rd w bv b) (hl : b.length ≤ 1000000) :
    Calls Tryd.prog 69 #[.int .u32 gen, .int .u32 round, .int .u32 seq, bv] w fun r w' => ∃ v, r = .returned (.tuple #[v, .int .i64 (frameK gen round b)]) ∧ OutL w.heap.size w' v (frameB gen round seq b) ∧ Below w.heap.size w w' := by
  obtain ⟨ab, cb, rfl⟩ := hb.len
  by_cases h1 : 4000 < b.length
  · have e : frameK gen round b = 3 := if_pos h1
    rw [frame_none (by rw [e]; decide), e]
    have h1' : (4000 : Int) < b.length := by omega
    clear e hb
    go_enter Tryd.func69, Tryd.ntmps69
    go_wp2
    refine bodyPost_ret (results_tmp2 rfl _ _ _) rfl ⟨_, rfl, outL_nil _ _, Below.refl _ _⟩
  · by_cases h2 : gen = 0 ∨ round = 0
    · have e : frameK gen round b = 1 := by unfold frameK; rw [if_neg h1, if_pos h2]
      rw [frame_none (by rw [e]; decide), e]
      have h1' : ¬ (4000 : Int) < b.length := by omega
      clear e hb
      rcases h2 with h2 | h2
      · subst h2
        go_enter Tryd.func69, Tryd.ntmps69
        go_wp2
        refine bodyPost_ret (results_tmp2 rfl _ _ _) rfl ⟨_, rfl, outL_nil _ _, Below.refl _ _⟩
      · subst h2
        by_cases h3 : gen = 0
        · subst h3
          go_enter Tryd.func69, Tryd.ntmps69
          go_wp2
          refine bodyPost_ret (results_tmp2 rfl _ _ _) rfl ⟨_, rfl, outL_nil _ _, Below.refl _ _⟩
        · have h3' : (gen == 0) = false := by simpa using h3
          go_enter Tryd.func69, Tryd.ntmps69
          go_wp2
          refine bodyPost_ret (results_tmp2 rfl _ _ _) rfl ⟨_, rfl, outL_nil _ _, Below.refl _ _⟩
    · have e : frameK gen round b = 0 := by unfold frameK; rw [if_neg h1, if_neg h2]
      rw [frame_some e, e]
      have h1' : ¬ (4000 : Int) < b.length := by omega
      have h3 : (gen == 0) = false := by simp; omega
      have h4 : (round == 0) = false := by simp; omega
      have HP : Hid (Calls Tryd.prog 47 #[.int .i64 (b.length : Int)] w fun r w' => r = .returned (.int .i64 ((partsN b.length : Nat) : Int)) ∧ w' = w) := by
        have := parts13 (b.length : Int) w (by unfold I64; omega)
        rwa [partsI_nat (by omega)] at this
      have hpl : partsN b.length ≤ 84 := partsN_le (by omega)
      obtain ⟨w1, hw1⟩ : ∃ w1, w1 = w.alloc (.cells (List.replicate (partsN b.length) nilv).toArray 30) := ⟨_, rfl⟩
      have hF : FrmK w w1 w.heap.size gen round seq b 0 [] := ⟨rfl, rfl, (fun q hq => by cases hq), (fun q hq => by cases hq), by rw [hw1]; exact blk_new w _ 30, by rw [hw1]; exact balloc (Below.refl _ _) _⟩
      have HF : Hid (FrmK w w1 w.heap.size gen round seq b 0 []) := hF
      have HW1 : Hid (w1 = w.alloc (.cells (List.replicate (partsN b.length) nilv).toArray 30)) := hw1
      have HD : Hid (∀ wr qs, FrmK w wr w.heap.size gen round seq b (partsN b.length) qs → RL wr (.slice (some ⟨w.heap.size, 0, none⟩) (partsN b.length) (partsN b.length)) qs ∧ LL qs = frameL gen round seq b ∧ NewQ w.heap.size (.slice (some ⟨w.heap.size, 0, none⟩) (partsN b.length) (partsN b.length)) qs) := fun wr qs h => h.done (Nat.le_refl _) (by omega)
      have HR : Hid (Rd w (.slice ab b.length cb) b) := hb
      obtain ⟨m, hm⟩ : ∃ m, m = partsN b.length := ⟨_, rfl⟩
      have HM : Hid (m = partsN b.length) := hm
      rw [← hm] at HP hpl HW1 HD
      have hcb := hb.cap
      clear hF hw1 e h1 h2 hb hm
      go_enter Tryd.func69, Tryd.ntmps69
      go_wp2_with (first
        | (go_at_call 47; go_must (refine HP.out.mono ?_; rintro r w2 ⟨rfl, hw2⟩; replace hw2 := hw2.symm; subst hw2))
        | (refine wpList_ok rfl (exec_make25 (n := m) (.tmp 24) (.tmp 24) rfl rfl rfl (by omega)) ?_; rw [← HW1.out]))
      go_loopw [3, 28] (fun b3 k3 wr => ∃ (k : Nat) (qs : List VB), k ≤ m ∧ k3 = .int .i64 k ∧ Hid (FrmK w wr w.heap.size gen round seq b k qs) ∧ Hid (Rd w b3 (b.drop (48 * k)))) (fun _ k3 _ => m - (intOf k3).toNat)
      case atStart => exact ⟨0, [], Nat.zero_le _, rfl, HF, HR⟩
      case round =>
        obtain ⟨k, qs, hk, rfl, hK, hB⟩ := hrel
        by_cases hlt : k < m
        · obtain ⟨a3, c3, hv3⟩ := hB.out.len
          subst hv3
          have hcap3 := hB.out.cap
          obtain ⟨L, hL⟩ : ∃ L, L = (b.drop (48 * k)).length := ⟨_, rfl⟩
          have HLE : Hid (L = (b.drop (48 * k)).length) := hL
          rw [← hL] at hcap3 ⊢
          have hLc : L ≤ c3 := hcap3.2.1
          have hcc : c3 ≤ 9223372036854775807 := hcap3.2.2
          clear hL hcap3
          obtain ⟨nn, hnn⟩ : ∃ nn, nn = min 48 L := ⟨_, rfl⟩
          have HNN : Hid (nn = min 48 L) := hnn
          have hmin : (if (L : Int) < 48 then (L : Int) else 48) = (nn : Int) := by split <;> omega
          have hnL : nn ≤ L := by omega
          have hn48 : nn ≤ 48 := by omega
          clear hnn
          have hrd0 : Rd w (.slice a3 L c3) (b.drop (48 * k)) := by rw [HLE.out]; exact hB.out
          have hrd1 : Rd w (.slice a3 nn c3) (chunk b k) := by
            rw [HNN.out, HLE.out, ← take_chunk b k]
            exact rd_head (by rw [← HLE.out]; exact hrd0) (Nat.min_le_right _ _)
          have hnext : b.drop (48 * (k + 1)) = (b.drop (48 * k)).drop nn := by rw [HNN.out, HLE.out, drop_chunk]
          have HS : Hid (Calls Tryd.prog 77 #[pv gen round seq k m (.slice a3 nn c3)] wr fun r w' => ∃ v, r = .returned v ∧ Rd w' v (partB gen round seq k m (chunk b k)) ∧ (∀ k, v.ownBlock = some k → wr.heap.size ≤ k) ∧ Below wr.heap.size wr w') := sector35 hg hr hs (by omega) (by omega) (hrd1.below hK.out.bel) (chunk_len _ _)
          have HRN : Hid (∀ w2 v2, Rd w2 v2 (partB gen round seq k m (chunk b k)) → (∀ j, v2.ownBlock = some j → wr.heap.size ≤ j) → Below wr.heap.size wr w2 → w2.cell? ⟨w.heap.size, k, none⟩ = some nilv ∧ w2.frozen? ⟨w.heap.size, k, none⟩ = false ∧ FrmK w (w2.setCell ⟨w.heap.size, k, none⟩ v2) w.heap.size gen round seq b (k + 1) (qs ++ [(v2, partB gen round seq k m (chunk b k))])) := fun w2 v2 h1 h2 h3 => hK.out.round HM.out hlt h1 h2 h3
          by_cases hcn : c3 = nn
          · have hnx : Rd w (.slice a3 0 0) (b.drop (48 * (k + 1))) := by
              rw [hnext]
              have h9 := rd_cut0 (s := nn) (l := b.drop (48 * k)) (a := a3) (w := w) (by rw [← HLE.out, ← hcn]; exact hrd0) (by rw [← HLE.out]; exact hnL)
              rw [← HLE.out, show L - nn = 0 by omega] at h9
              exact h9
            have HNX : Hid (Rd w (.slice a3 0 0) (b.drop (48 * (k + 1)))) := hnx
            clear hrd0 hrd1 hnext hnx
            subst hcn
            go_wp2_with (go_at_call 77; go_must (refine HS.out.mono ?_; rintro r w2 ⟨v2, rfl, hr2, hn2, hb2⟩; obtain ⟨a2, c2, hv2⟩ := hr2.len; subst hv2; obtain ⟨l1, l2, hK2⟩ := HRN.out w2 _ hr2 hn2 hb2; have HK2 : Hid (FrmK w (w2.setCell ⟨w.heap.size, k, none⟩ (.slice a2 (partB gen round seq k m (chunk b k)).length c2)) w.heap.size gen round seq b (k + 1) (qs ++ [(.slice a2 (partB gen round seq k m (chunk b k)).length c2, partB gen round seq k m (chunk b k))])) := hK2; clear hr2 hn2 hb2 hK2))
            go_roundw
            case rel => exact ⟨k + 1, _, by omega, by go_num, HK2, HNX⟩
            case measure => simp [intOf]; omega
          · have hnx : Rd w (.slice (Option.map (fun x => x.add nn) a3) (L - nn) (c3 - nn)) (b.drop (48 * (k + 1))) := by
              rw [hnext]
              have h9 := rd_cut (s := nn) (l := b.drop (48 * k)) (a := a3) (cap := c3) (w := w) (by rw [← HLE.out]; exact hrd0) (by rw [← HLE.out]; exact hnL) hcn
              rw [← HLE.out] at h9
              exact h9
            have HNX : Hid (Rd w (.slice (Option.map (fun x => x.add nn) a3) (L - nn) (c3 - nn)) (b.drop (48 * (k + 1)))) := hnx
            clear hrd0 hrd1 hnext hnx
            go_wp2_with (go_at_call 77; go_must (refine HS.out.mono ?_; rintro r w2 ⟨v2, rfl, hr2, hn2, hb2⟩; obtain ⟨a2, c2, hv2⟩ := hr2.len; subst hv2; obtain ⟨l1, l2, hK2⟩ := HRN.out w2 _ hr2 hn2 hb2; have HK2 : Hid (FrmK w (w2.setCell ⟨w.heap.size, k, none⟩ (.slice a2 (partB gen round seq k m (chunk b k)).length c2)) w.heap.size gen round seq b (k + 1) (qs ++ [(.slice a2 (partB gen round seq k m (chunk b k)).length c2, partB gen round seq k m (chunk b k))])) := hK2; clear hr2 hn2 hb2 hK2))
            go_roundw
            case rel => exact ⟨k + 1, _, by omega, by go_num, HK2, HNX⟩
            case measure => simp [intOf]; omega
        · obtain rfl : k = m := by omega
          go_wp2
          obtain ⟨o1, o2, o3⟩ := HD.out _ _ hK.out
          refine bodyPost_ret (results_tmp2 rfl _ _ _) rfl ⟨_, rfl, ⟨_, o1, o2, o3⟩, hK.out.bel⟩
end Go.Proofs.YtkcighejmjgalaaDoor
