/-
  light; the list of what is wanted.
-/
import Derived.Test.YtkcighejmjgalaaDoorArgsS
namespace Go.Proofs.YtkcighejmjgalaaDoor
set_option linter.unusedVariables false
set_option linter.unusedSimpArgs false
set_option synthInstance.maxSize 20000
set_option maxHeartbeats 2000000
set_option maxRecDepth 20000
open Go.RowKit Go.Maps

/-- A list that grows, of bytes that stay. Its row is 9's. -/
structure WantAt (w : World) (o : Nat → Nat) (v : Value) (qs : List VB) : Prop where
  own : w.ownsRow 0 30 1 v qs.length (flat lc qs)
  rd : ∀ q ∈ qs, Rd w q.1 q.2
  ow : ∀ k, v.ownBlock = some k → o k = 9
  el : ∀ q ∈ qs, q.2 ≠ [] → ∀ k, q.1.ownBlock = some k → o k = 0
theorem want_nil (w : World) (o : Nat → Nat) : WantAt w o nilv [] := ⟨World.ownsRow_nil _ _ _ _, (fun q hq => by cases hq), (fun k hk => by cases hk), fun q hq => by cases hq⟩
theorem WantAt.rl {w : World} {o : Nat → Nat} {v : Value} {qs : List VB} (h : WantAt w o v qs) : RL w v qs := ⟨rowF_own lc_len h.own, h.rd⟩
theorem WantAt.mv {I : List Nat} {w w' : World} {o o' : Nat → Nat} {v : Value} {qs : List VB} (h : WantAt w o v qs) (m : Mv I w o w' o') (h9 : 9 ∉ I) (h0 : 0 ∉ I) : WantAt w' o' v qs :=
  ⟨ownsRow_block h.own (fun k hk => m.block k (h.own.lt k hk).2 (by rw [h.ow k hk]; exact h9)), fun q hq => (h.rd q hq).blocks (fun hl k hk hlt => m.block k hlt (by rw [h.el q hq hl k hk]; exact h0)),
    fun k hk => by rw [m.ext k (h.own.lt k hk).2]; exact h.ow k hk, fun q hq hl k hk => by rw [m.ext k ((h.rd q hq).blockLt hl k hk)]; exact h.el q hq hl k hk⟩
theorem WantAt.add {w w3 : World} {o : Nat → Nat} {v v' ev : Value} {eb : List Int} {qs : List VB} (h : WantAt w o v qs) (he : Rd w ev eb) (h0 : eb ≠ [] → ∀ k, ev.ownBlock = some k → o k = 0)
    (k1 : w3.ownsRow 0 30 1 v' (qs ++ [(ev, eb)]).length (flat lc (qs ++ [(ev, eb)]))) (k2 : (w.alloc (.cells #[ev] 30)).grownBy w3 v.ownBlock) (k3 : ∀ j, v'.ownBlock = some j → v.ownBlock = some j ∨ (w.alloc (.cells #[ev] 30)).heap.size ≤ j) :
    ∃ o3, WantAt w3 o3 v' (qs ++ [(ev, eb)]) ∧ Mv [9] w o w3 o3 := by
  have hb2 : Below w.heap.size w (w.alloc (.cells #[ev] 30)) := balloc (Below.refl _ _) _
  have hsz : w.heap.size ≤ (w.alloc (.cells #[ev] 30)).heap.size := hb2.size
  have hg : w.grownBy w3 v.ownBlock := grown_none (below_grown hb2) k2
  have hm : Mv [9] w o w3 (newBy o w (fun k => if v'.ownBlock = some k then 9 else 0)) := Mv.of_turn' _ (turn_grown hg) (fun k hk hlt => by
    cases hv : v.ownBlock with
    | none => rw [hv] at hk; cases hk
    | some c =>
      rw [hv] at hk
      simp at hk
      subst hk
      rw [h.ow _ hv]
      simp)
  refine ⟨_, ⟨k1, fun q hq => ?_, fun k hk => ?_, fun q hq hl k hk => ?_⟩, hm⟩
  · rcases List.mem_append.1 hq with hq | hq
    · exact (h.rd q hq).blocks (fun hl k hk hlt => hm.block k hlt (by rw [h.el q hq hl k hk]; simp))
    · simp at hq
      subst hq
      exact he.blocks (fun hl k hk hlt => hm.block k hlt (by rw [h0 hl k hk]; simp))
  · rcases k3 k hk with h9 | h9
    · rw [newBy_old (h.own.lt k h9).2]
      exact h.ow k h9
    · rw [newBy_new (by omega), if_pos hk]
  · rcases List.mem_append.1 hq with hq | hq
    · rw [newBy_old ((h.rd q hq).blockLt hl k hk)]
      exact h.el q hq hl k hk
    · simp at hq
      subst hq
      rw [newBy_old (he.blockLt hl k hk)]
      exact h0 hl k hk

/-! ### lightActs -/
def lightA (qs : List ActS) : Bool := decide (qs.length ≤ 30) && qs.all (fun q => decide (q.b.length ≤ 600) && decide (q.ks.length ≤ 60))
theorem lightA_true {qs : List ActS} (h : lightA qs = true) : qs.length ≤ 30 ∧ ∀ q ∈ qs, q.b.length ≤ 600 ∧ q.ks.length ≤ 60 := by
  simp only [lightA, Bool.and_eq_true, decide_eq_true_eq, List.all_eq_true] at h
  exact h
theorem acc_cell {w : World} {a : Option Addr} {n cap : Nat} {qs : List ActS} (h : RowF acs w (.slice a n cap) qs) {i : Nat} {q : ActS} (hi : qs[i]? = some q) : ∃ b off, a = some ⟨b, off, none⟩ ∧ w.rangeAt b (off + i * 4) (acs q) := h.at acs_len hi
theorem light5 {w : World} {v : Value} {qs : List ActS} (h : RowF acs w v qs) (hq : ∀ q ∈ qs, ActOk w q) : Calls Tryd.prog 5 #[v] w fun r w' => r = .returned (.bool (lightA qs)) ∧ w' = w := by
  obtain ⟨a, cap, rfl⟩ := h.len
  have hcap := h.caps
  have hm1 : qs.length ≤ cap := hcap.2.1
  have hm2 : cap ≤ 9223372036854775807 := hcap.2.2
  by_cases h40 : 30 < qs.length
  · have e : lightA qs = false := by
      unfold lightA
      rw [decide_eq_false (by omega), Bool.false_and]
    rw [e]
    generalize qs.length = m at *
    clear h e hcap hq
    go_enter Tryd.func5, Tryd.ntmps5
    go_wp2
    go_ret
    exact ⟨rfl, rfl⟩
  · have H : Hid (RowF acs w (.slice a qs.length cap) qs) := h
    have HQ : Hid (∀ q ∈ qs, ActOk w q) := hq
    obtain ⟨m, hm⟩ : ∃ m, m = qs.length := ⟨_, rfl⟩
    have HM : Hid (m = qs.length) := hm
    rw [← hm] at hm1 h40 H ⊢
    clear h hcap hq hm
    go_enter Tryd.func5, Tryd.ntmps5
    go_wp2
    go_loopw [3] (fun kv wr => ∃ (k : Nat), k ≤ m ∧ kv = .int .i64 k ∧ Hid ((∀ j q, j < k → qs[j]? = some q → q.b.length ≤ 600 ∧ q.ks.length ≤ 60) ∧ wr = w)) (fun kv _ => m - (intOf kv).toNat)
    case atStart => exact ⟨0, Nat.zero_le _, rfl, (fun j q hj => by omega), rfl⟩
    case round =>
      obtain ⟨k, hk, rfl, hT⟩ := hrel
      have hwr := hT.out.2
      subst hwr
      by_cases hlt : k < m
      · obtain ⟨q, hq⟩ : ∃ q, qs[k]? = some q := ⟨_, List.getElem?_eq_getElem (by rw [← HM.out]; exact hlt)⟩
        obtain ⟨bb, off, rfl, hr⟩ := acc_cell H.out hq
        have hqo := HQ.out q (List.mem_of_getElem? hq)
        obtain ⟨qa, qc, hqv⟩ := hqo.b.len
        obtain ⟨ka, kc, hkv⟩ := hqo.k.len
        have hqcap := hqo.b
        rw [hqv] at hqcap
        have hqc := hqcap.cap
        have hkcap := hqo.k
        rw [hkv] at hkcap
        have hkc := hkcap.caps
        have c0 : wr.cell? ⟨bb, off + k * 4 + 1, none⟩ = some (.slice qa q.b.length qc) := by
          have := hr 1 _ rfl
          rw [this, hqv]
        have c2 : wr.cell? ⟨bb, off + k * 4 + 3, none⟩ = some (.slice ka q.ks.length kc) := by
          have := hr 3 _ rfl
          rw [this, hkv]
        by_cases h5 : q.b.length ≤ 600 ∧ q.ks.length ≤ 60
        · have HT2 : Hid ((∀ j q, j < k + 1 → qs[j]? = some q → q.b.length ≤ 600 ∧ q.ks.length ≤ 60) ∧ True) := ⟨fun j q' hj hq' => by
            by_cases e : j = k
            · subst e
              rw [hq] at hq'
              cases hq'
              exact h5
            · exact hT.out.1 j q' (by omega) hq', trivial⟩
          obtain ⟨h51, h52⟩ := h5
          generalize q.b.length = ql at *
          generalize q.ks.length = kl at *
          clear hr hqo hqcap hqv hkv hkcap
          go_wp2
          go_roundw
          case rel => exact ⟨k + 1, by omega, by go_num, HT2⟩
          case measure => simp [intOf]; omega
        · have E0 : Hid (lightA qs = false) := by
            show _ = _
            cases hl : lightA qs with
            | false => rfl
            | true => exact absurd ((lightA_true hl).2 q (List.mem_of_getElem? hq)) h5
          by_cases h51 : 600 < q.b.length
          · generalize q.b.length = ql at *
            generalize q.ks.length = kl at *
            clear hr hqo hqcap hqv hkv hkcap h5
            go_wp2
            go_ret
            exact ⟨by rw [E0.out]; rfl, rfl⟩
          · have h52 : 60 < q.ks.length := by omega
            generalize q.b.length = ql at *
            generalize q.ks.length = kl at *
            clear hr hqo hqcap hqv hkv hkcap h5
            go_wp2
            go_ret
            exact ⟨by rw [E0.out]; rfl, rfl⟩
      · obtain rfl : k = m := by omega
        have E1 : Hid (lightA qs = true) := by
          show _ = _
          simp only [lightA, Bool.and_eq_true, decide_eq_true_eq, List.all_eq_true]
          refine ⟨by rw [← HM.out]; omega, fun q hq => ?_⟩
          obtain ⟨j, hj⟩ := List.mem_iff_getElem?.1 hq
          exact hT.out.1 j q (by rw [HM.out]; exact (List.getElem?_eq_some_iff.1 hj).1) hj
        go_wp2
        go_ret
        exact ⟨by rw [E1.out]; rfl, rfl⟩
end Go.Proofs.YtkcighejmjgalaaDoor
