/-
  Light: are operations few, and short?
-/
import Derived.Test.YtjlpdoomchkfgaaLsF
import Derived.Test.YtjlpdoomchkfgaaRowG
namespace Go.Proofs.Ytjlpdoomchkfgaa
set_option linter.unusedVariables false
set_option linter.unusedSimpArgs false
set_option synthInstance.maxSize 20000
set_option maxHeartbeats 2000000
set_option maxRecDepth 20000
open Go.RowKit Go.Maps

def okO (q : OpT) : Bool := decide (q.s.size ≤ 40 ∧ q.vn ≤ 500)
def lightB (l : List OpT) (n : Int) : Bool := decide ((l.length : Int) ≤ n) && l.all okO
theorem all_take_more {l : List OpT} {i : Nat} {x : OpT} (hx : l[i]? = some x) : (l.take (i + 1)).all okO = ((l.take i).all okO && okO x) := by
  obtain ⟨hi, rfl⟩ := List.getElem?_eq_some_iff.1 hx
  rw [List.take_succ_eq_append_getElem hi, List.all_append]
  simp
theorem light8 {w : World} {v : Value} {l : List OpT} {n : Int} (h : RowF oc w v l) (hl : l.length ≤ 9223372036854775807) : Calls Try.prog 8 #[v, .int .i64 n] w fun e w' => e = .returned (.bool (lightB l n)) ∧ w' = w := by
  obtain ⟨a, cap, rfl⟩ := h.len
  have HR : Hid (RowF oc w (.slice a l.length cap) l) := h
  have hc := h.caps
  have HQ : Hid (lightB l n = (decide ((l.length : Int) ≤ n) && l.all okO)) := (rfl : lightB l n = _)
  clear h
  obtain ⟨N, hN⟩ : ∃ N, N = l.length := ⟨_, rfl⟩
  have HN : Hid (N = l.length) := hN
  rw [← hN] at hc hl ⊢
  obtain ⟨hc1, hc2, hc3⟩ := hc
  clear hc1
  by_cases h1 : n < (N : Int)
  · have HF : Hid (lightB l n = false) := by
      show _ = _
      rw [HQ.out, decide_eq_false (by rw [← HN.out]; omega)]; rfl
    clear hN
    go_enter Try.func8, Try.ntmps8
    go_wp2
    go_ret
    exact ⟨by rw [HF.out]; rfl, rfl⟩
  · have h1' : (N : Int) ≤ n := by omega
    have HF : Hid (lightB l n = l.all okO) := by
      show _ = _
      rw [HQ.out, decide_eq_true (by rw [← HN.out]; omega)]; simp
    clear hN HQ
    go_enter Try.func8, Try.ntmps8
    go_wp2
    go_loopw [5] (fun vi wr => ∃ i : Nat, vi = .int .i64 (i : Int) ∧ i ≤ N ∧ Hid ((l.take i).all okO = true) ∧ Hid (wr = w)) (fun vi _ => N - (intOf vi).toNat)
    case atStart => exact ⟨0, rfl, Nat.zero_le _, rfl, rfl⟩
    case round =>
      obtain ⟨i, rfl, hi, HA, HW⟩ := hrel
      have hw := HW.out
      subst hw
      rename World => wq
      by_cases hlt : i < N
      · have hlt' : (i : Int) < (N : Int) := by omega
        obtain ⟨x, hx⟩ : ∃ x, l[i]? = some x := ⟨_, List.getElem?_eq_getElem (by rw [← HN.out]; exact hlt)⟩
        obtain ⟨b, off, rfl, hcell⟩ := RowF.at oc_len HR.out hx
        have HM := all_take_more hx
        have e8 := hcell 8 _ rfl
        have e9 := hcell 9 _ rfl
        have HX : Hid (okO x = decide (x.s.size ≤ 40 ∧ x.vn ≤ 500)) := (rfl : okO x = _)
        by_cases h8 : 40 < x.s.size
        · have h8' : (40 : Int) < (x.s.size : Int) := by omega
          have HF2 : Hid (lightB l n = false) := by
            show _ = _
            rw [HF.out]
            cases hA : l.all okO
            · rfl
            · have := List.all_eq_true.1 hA x (List.mem_of_getElem? hx)
              rw [HX.out] at this
              have := of_decide_eq_true this
              omega
          clear HM hx hcell
          go_wp2
          go_ret
          exact ⟨by rw [HF2.out]; rfl, rfl⟩
        · have h8' : ¬ (40 : Int) < (x.s.size : Int) := by omega
          by_cases h9 : 500 < x.vn
          · have h9' : (500 : Int) < (x.vn : Int) := by omega
            have HF2 : Hid (lightB l n = false) := by
              show _ = _
              rw [HF.out]
              cases hA : l.all okO
              · rfl
              · have := List.all_eq_true.1 hA x (List.mem_of_getElem? hx)
                rw [HX.out] at this
                have := of_decide_eq_true this
                omega
            clear HM hx hcell
            go_wp2
            go_ret
            exact ⟨by rw [HF2.out]; rfl, rfl⟩
          · have h9' : ¬ (500 : Int) < (x.vn : Int) := by omega
            have HA2 : Hid ((l.take (i + 1)).all okO = true) := by
              show _ = _
              rw [HM, HA.out, HX.out, decide_eq_true (by omega)]; rfl
            clear HM hx hcell
            go_wp2
            go_roundw
            case rel => exact ⟨i + 1, by go_num, by omega, HA2, by first | rfl | trivial⟩
            case measure => simp [intOf] <;> omega
      · obtain rfl : i = N := by omega
        have hlt' : ¬ (i : Int) < (i : Int) := by omega
        have HF2 : Hid (lightB l n = true) := by
          show _ = _
          rw [HF.out]
          have := HA.out
          rw [HN.out, List.take_length] at this
          exact this
        go_wp2
        go_ret
        exact ⟨by rw [HF2.out]; rfl, rfl⟩
end Go.Proofs.Ytjlpdoomchkfgaa
