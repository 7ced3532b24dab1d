/-
  A journal in memory; a stretch's sectors as they are read; wrong, begin, Open, Create.
-/
import Derived.Test.YtkcighejmjgalaaDoorScn3
import Derived.Test.YtkcighejmjgalaaDoorDsk5
namespace Go.Proofs.YtkcighejmjgalaaDoor
set_option linter.unusedVariables false
set_option linter.unusedSimpArgs false
set_option synthInstance.maxSize 20000
set_option maxHeartbeats 2000000
set_option maxRecDepth 20000
open Go.RowKit Go.Maps

/-- What can be read of a sector. -/
def secB (s : Sec) : List Int := if s.t then [] else s.d
def cont (D : Dk) (base size : Nat) : List (List Int) := ((D.now.drop base).take size).map secB
theorem cont_len {D : Dk} {base size : Nat} (h : base + size ≤ D.now.length) : (cont D base size).length = size := by simp [cont]; omega
theorem cont_at {D : Dk} {base size k : Nat} (h : base + size ≤ D.now.length) (hk : k < size) : (cont D base size)[k]? = some (secB (D.now.getD (base + k) zs)) := by
  unfold cont
  rw [List.getElem?_map, List.getElem?_take, if_pos hk, List.getElem?_drop, List.getD_eq_getElem?_getD, List.getElem?_eq_getElem (show base + k < D.now.length by omega)]
  rfl
theorem read_cont {D : Dk} {i : Nat} (hd : D.down = false) (hi : i < D.now.length) : D.readB (i : Int) = secB (D.now.getD i zs) := by
  have h0 : D.reach (i : Int) = 0 := by
    unfold Dk.reach
    rw [hd]
    simp
    omega
  have hK : D.readK (i : Int) = if (D.readS (i : Int)).t then 5 else 0 := by unfold Dk.readK; simp [h0]
  have e : D.readS (i : Int) = D.now.getD i zs := by unfold Dk.readS; rw [Int.toNat_natCast]
  unfold Dk.readB
  rw [hK, e]
  unfold secB
  cases (D.now.getD i zs).t <;> simp
theorem secB_oct (s : Sec) : Oct (secB s) := by
  unfold secB
  split
  · exact Oct.nil
  · exact s.oct
theorem cont_oct {D : Dk} {base size : Nat} : ∀ s ∈ cont D base size, Oct s := fun s hs => by
  simp only [cont, List.mem_map] at hs
  obtain ⟨x, _, rfl⟩ := hs
  exact secB_oct x

/-! ### A row that is filled, one by one -/
structure Fill (w wr : World) (g : Nat) (L : List (List Int)) (m k : Nat) (qs : List VB) : Prop where
  len : qs.length = k
  ll : LL qs = L.take k
  rd : ∀ q ∈ qs, Rd wr q.1 q.2
  new : ∀ q ∈ qs, ∀ j, q.1.ownBlock = some j → g < j
  blk : Blk wr g 30 (qs.map (·.1) ++ List.replicate (m - k) nilv)
  bel : Below w.heap.size w wr
theorem Fill.step {w wr w2 : World} {L : List (List Int)} {m k : Nat} {qs : List VB} (h : Fill w wr w.heap.size L m k qs) (hk : k < m) {v : Value} {s : List Int} (hs : L[k]? = some s)
    (hr : Rd w2 v s) (hn : ∀ j, v.ownBlock = some j → wr.heap.size ≤ j) (hb : Below wr.heap.size wr w2) :
    w2.cell? ⟨w.heap.size, k, none⟩ = some nilv ∧ w2.frozen? ⟨w.heap.size, k, none⟩ = false ∧ Fill w (w2.setCell ⟨w.heap.size, k, none⟩ v) w.heap.size L m (k + 1) (qs ++ [(v, s)]) := by
  have hB2 := h.blk.below hb
  have hgl := h.blk.lt
  have hG := grown_setCell w2 w.heap.size k v
  have hB3 := hB2.set k v
  rw [set_nils (by simp [h.len]) hk] at hB3
  refine ⟨hB2.cell k nilv (nils_at (by simp [h.len]) hk), hB2.frozen k, ⟨by simp [h.len], ?_, fun q hq => ?_, fun q hq j hj => ?_, by simpa using hB3, bgrown (bnext h.bel hb) (Nat.le_refl _) hG⟩⟩
  · obtain ⟨h1, h2⟩ := List.getElem?_eq_some_iff.1 hs
    rw [List.take_succ_eq_append_getElem h1, ← h.ll, h2]
    simp [LL]
  · rcases List.mem_append.1 hq with hq | hq
    · refine ((h.rd q hq).below hb).kept hG (fun j hj e => ?_)
      cases hj
      exact Nat.lt_irrefl _ (h.new q hq _ e)
    · simp at hq
      subst hq
      refine hr.kept hG (fun j hj e => ?_)
      cases hj
      have := hn _ e
      omega
  · rcases List.mem_append.1 hq with hq | hq
    · exact h.new q hq j hj
    · simp at hq
      subst hq
      have := hn j hj
      omega
theorem Fill.done {w wr : World} {L : List (List Int)} {m : Nat} {qs : List VB} (h : Fill w wr w.heap.size L m m qs) (hL : L.length = m) (hm : m ≤ 400) : OutL w.heap.size wr (.slice (some ⟨w.heap.size, 0, none⟩) m m) L := by
  have h1 := h.blk
  rw [Nat.sub_self, List.replicate_zero, List.append_nil] at h1
  have h2 := blk_rl h1 h.rd (by rw [h.len]; omega)
  rw [h.len] at h2
  refine ⟨qs, h2, ?_, ⟨fun k hk => ?_, fun q hq k hk => by have := h.new q hq k hk; omega⟩⟩
  · rw [h.ll, List.take_of_length_le (by omega)]
  · have := Option.some.inj hk
    simp at this
    omega
theorem readOut_new {w w' : World} {v : Value} {k : Int} {s : Sec} (h : ReadOut w w' v k s) : (∀ j, v.ownBlock = some j → w.heap.size ≤ j) ∧ ∃ a n c, v = .slice a n c := by
  unfold ReadOut at h
  split at h
  · rw [h.1]
    exact ⟨(fun j hj => by have := Option.some.inj hj; simp at this; omega), _, _, _, rfl⟩
  · rw [h]
    exact ⟨(fun j hj => by cases hj), _, _, _, rfl⟩

section
variable {w : World} {o : Nat → Nat} {j b : Nat} {D : Dk}
theorem sectors62 (h : DIs w o j b D) (hd : D.down = false) {base size : Nat} (hbs : base + size ≤ D.now.length) (hl : D.now.length ≤ 400) : Calls Tryd.prog 76 #[ptr b, .int .i64 (base : Int), .int .i64 (size : Int)] w fun r w' => ∃ v, r = .returned v ∧ OutL w.heap.size w' v (cont D base size) ∧ Below w.heap.size w w' := by
  obtain ⟨gv, nv, pv, h⟩ := h
  obtain ⟨w1, hw1⟩ : ∃ w1, w1 = w.alloc (.cells (List.replicate size nilv).toArray 30) := ⟨_, rfl⟩
  have HF : Hid (Fill w w1 w.heap.size (cont D base size) size 0 []) := ⟨rfl, rfl, (fun q hq => by cases hq), (fun q hq => by cases hq), by rw [hw1]; exact blk_new w _ 30, by rw [hw1]; exact balloc (Below.refl _ _) _⟩
  have HW1 : Hid (w1 = w.alloc (.cells (List.replicate size nilv).toArray 30)) := hw1
  have HRead : Hid (∀ wr (k : Nat), k < size → Below w.heap.size w wr → Calls Tryd.prog 32 #[ptr b, .int .i64 ((base : Int) + (k : Int))] wr fun r w' => ∃ v kd, r = .returned (.tuple #[v, .int .i64 kd]) ∧ Rd w' v (secB (D.now.getD (base + k) zs)) ∧ (∀ i, v.ownBlock = some i → wr.heap.size ≤ i) ∧ Below wr.heap.size wr w') := fun wr k hk hb => by
    have := read_any (h.below hb) ((base + k : Nat) : Int)
    rw [Int.natCast_add] at this
    refine this.mono ?_
    rintro r w' ⟨v, rfl, ho, hb2⟩
    refine ⟨v, _, rfl, ?_, (readOut_new ho).1, hb2⟩
    have h9 := ho.rd
    rw [← Int.natCast_add, read_cont hd (by omega)] at h9
    exact h9
  have hsz : size ≤ 400 := by omega
  have hbz : base ≤ 400 := by omega
  clear hw1 h
  go_enter Tryd.func76, Tryd.ntmps76
  go_wp2_with (refine wpList_ok rfl (exec_make25 (n := size) (.tmp 9) (.tmp 9) rfl rfl rfl (by omega)) ?_; rw [← HW1.out])
  go_loopw [13] (fun kv wr => ∃ (k : Nat) (qs : List VB), k ≤ size ∧ kv = .int .i64 k ∧ Hid (Fill w wr w.heap.size (cont D base size) size k qs)) (fun kv _ => size - (intOf kv).toNat)
  case atStart => exact ⟨0, [], Nat.zero_le _, rfl, HF⟩
  case round =>
    obtain ⟨k, qs, hk, rfl, hF⟩ := hrel
    by_cases hlt : k < size
    · have HR := HRead.out wr k hlt hF.out.bel
      have HStep : Hid (∀ w2 v, Rd w2 v (secB (D.now.getD (base + k) zs)) → (∀ j, v.ownBlock = some j → wr.heap.size ≤ j) → Below wr.heap.size wr w2 → w2.cell? ⟨w.heap.size, k, none⟩ = some nilv ∧ w2.frozen? ⟨w.heap.size, k, none⟩ = false ∧ Fill w (w2.setCell ⟨w.heap.size, k, none⟩ v) w.heap.size (cont D base size) size (k + 1) (qs ++ [(v, secB (D.now.getD (base + k) zs))])) := fun w2 v h1 h2 h3 => hF.out.step hlt (cont_at hbs hlt) h1 h2 h3
      generalize secB (D.now.getD (base + k) zs) = sec at *
      go_wp2_with (go_at_call 32; go_must (refine HR.mono ?_; rintro r w2 ⟨v2, kd, rfl, hr2, hn2, hb2⟩; obtain ⟨a2, c2, hv2⟩ := hr2.len; subst hv2; obtain ⟨l1, l2, hK2⟩ := HStep.out w2 _ hr2 hn2 hb2; have HK2 : Hid (Fill w (w2.setCell ⟨w.heap.size, k, none⟩ (.slice a2 sec.length c2)) w.heap.size (cont D base size) size (k + 1) (qs ++ [(.slice a2 sec.length c2, sec)])) := hK2; clear hr2 hn2 hb2 hK2))
      go_roundw
      case rel => exact ⟨k + 1, _, by omega, by go_num, HK2⟩
      case measure => simp [intOf]; omega
    · obtain rfl : k = size := by omega
      have HD : Hid (OutL w.heap.size wr (.slice (some ⟨w.heap.size, 0, none⟩) k k) (cont D base k)) := hF.out.done (cont_len hbs) hsz
      go_wp2
      go_ret
      exact ⟨_, rfl, HD.out, hF.out.bel⟩

/-! ### wrong -/
def wrongK (D : Dk) (base size gen : Int) : Int := if gen = 0 ∨ base < 0 ∨ size < 1 then 1 else if (D.now.length : Int) - base < size then 1 else if D.down then 19 else 0
theorem wrong_zero {D : Dk} {base size gen : Int} (h : wrongK D base size gen = 0) : gen ≠ 0 ∧ 0 ≤ base ∧ 1 ≤ size ∧ base + size ≤ D.now.length ∧ D.down = false := by
  unfold wrongK at h
  split at h
  · cases h
  · split at h
    · cases h
    · split at h
      · cases h
      · rename_i h1 h2 h3
        exact ⟨by omega, by omega, by omega, by omega, by simpa using h3⟩
theorem wrong61 (h : DIs w o j b D) (hl : D.now.length ≤ 400) {base size gen : Int} (hb : I64 base) (hs : I64 size) (hg : U32 gen) : Calls Tryd.prog 75 #[ptr b, .int .i64 base, .int .i64 size, .int .u32 gen] w fun r w' => r = .returned (.int .i64 (wrongK D base size gen)) ∧ w' = w := by
  obtain ⟨gv, nv, pv, h⟩ := h
  have H63 : Hid (Calls Tryd.prog 31 #[ptr b] w fun r w' => r = .returned (.int .i64 (D.now.length : Int)) ∧ w' = w) := sectors_any h
  have H33 : Hid (Calls Tryd.prog 41 #[ptr b] w fun r w' => r = .returned (.bool D.down) ∧ w' = w) := down_any h
  obtain ⟨b0, b1⟩ := hb
  obtain ⟨s0, s1⟩ := hs
  unfold wrongK
  generalize D.now.length = m at *
  generalize D.down = dn at *
  clear h
  by_cases hg0 : gen = 0
  · rw [if_pos (.inl hg0)]
    subst hg0
    go_enter Tryd.func75, Tryd.ntmps75
    go_wp2
    go_ret
    exact ⟨rfl, rfl⟩
  · have hg1 : (gen == 0) = false := by simpa using hg0
    by_cases hb0 : base < 0
    · rw [if_pos (.inr (.inl hb0))]
      clear hg0
      go_enter Tryd.func75, Tryd.ntmps75
      go_wp2
      go_ret
      exact ⟨rfl, rfl⟩
    · by_cases hs0 : size < 1
      · rw [if_pos (.inr (.inr hs0))]
        clear hg0
        go_enter Tryd.func75, Tryd.ntmps75
        go_wp2
        go_ret
        exact ⟨rfl, rfl⟩
      · rw [if_neg (by omega)]
        clear hg0
        by_cases hf : (m : Int) - base < size
        · rw [if_pos hf]
          go_enter Tryd.func75, Tryd.ntmps75
          go_wp2_with (go_at_call 31; go_must (refine H63.out.mono ?_; rintro r w2 ⟨rfl, hw2⟩; replace hw2 := hw2.symm; subst hw2))
          go_ret
          exact ⟨rfl, rfl⟩
        · rw [if_neg hf]
          cases dn
          all_goals
            go_enter Tryd.func75, Tryd.ntmps75
            go_wp2_with (first
              | (go_at_call 31; go_must (refine H63.out.mono ?_; rintro r w2 ⟨rfl, hw2⟩; replace hw2 := hw2.symm; subst hw2))
              | (go_at_call 41; go_must (refine H33.out.mono ?_; rintro r w2 ⟨rfl, hw2⟩; replace hw2 := hw2.symm; subst hw2)))
            go_ret
            exact ⟨rfl, rfl⟩
theorem wrong61_nil (w : World) : Calls Tryd.prog 75 #[.pointer none, .int .i64 0, .int .i64 1, .int .u32 1] w fun r w' => r = .returned (.int .i64 23) ∧ w' = w := by
  go_enter Tryd.func75, Tryd.ntmps75
  go_wp2
  go_ret
  exact ⟨rfl, rfl⟩
end
end Go.Proofs.YtkcighejmjgalaaDoor
