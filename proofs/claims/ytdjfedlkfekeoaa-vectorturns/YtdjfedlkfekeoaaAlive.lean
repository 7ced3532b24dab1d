/-
  What all laws of vectors begin with: which are light, the chapter's example; and that vectors are the same.
-/
import Derived.Test.YtdjfedlkfekeoaaTwo
namespace Go.Proofs.Ytdjfedlkfekeoaa
set_option linter.unusedVariables false
set_option linter.unusedSimpArgs false
open Go.RowKit

def lightB (L : Nat → Nat) (n : Nat) : Bool := (List.range n).all fun j => decide (L j ≤ 30)
theorem lightB_all {L : Nat → Nat} {n : Nat} (h : ∀ j, j < n → L j ≤ 30) : lightB L n = true := by simp [lightB]; exact h
theorem lightB_not {L : Nat → Nat} {n j : Nat} (hj : j < n) (h : ¬ L j ≤ 30) : lightB L n = false := by
  cases e : lightB L n with
  | false => rfl
  | true => simp [lightB] at e; exact absurd (e j hj) h

set_option maxHeartbeats 400000 in
theorem light_any (w : World) (b n : Nat) (A : Nat → Option Addr) (L C : Nat → Nat) (hn : n ≤ 10) (hL : ∀ j, j < n → L j ≤ 9223372036854775807) (hc : ∀ j, j < n → w.cell? ⟨b, j, none⟩ = some (.slice (A j) (L j) (C j))) :
    Calls Try.prog 9 #[.slice (some ⟨b, 0, none⟩) n n] w fun e w' => e = .returned (.bool (lightB L n)) ∧ w' = w := by
  have HC : Hid _ := hc
  have HL : Hid _ := hL
  clear hc hL
  go_enter Try.func9, Try.ntmps9
  go_wp2
  go_loop [3] (fun i => ∃ j : Nat, i = .int .i64 j ∧ j ≤ n ∧ Hid (∀ t, t < j → L t ≤ 30)) (fun i => n - (intOf i).toNat)
  case atStart => exact ⟨0, rfl, by omega, (fun t ht => by omega : ∀ t, t < 0 → L t ≤ 30)⟩
  case round =>
    obtain ⟨j, rfl, hj, HT⟩ := hrel
    by_cases hjn : j < n
    · have c0 := HC.out j hjn
      have l0 := HL.out j hjn
      by_cases h30 : L j ≤ 30
      · have HT2 : Hid (∀ t, t < j + 1 → L t ≤ 30) := fun t ht => by
          by_cases e : t = j
          · subst e; exact h30
          · exact HT.out t (by omega)
        generalize L j = lj at c0 l0 h30
        go_wp2
        go_round
        case rel => exact ⟨j + 1, by go_num, by omega, HT2⟩
        case measure => simp [intOf]; omega
      · have HE : Hid (lightB L n = false) := lightB_not hjn h30
        generalize L j = lj at c0 l0 h30
        go_wp2
        go_ret
        exact ⟨by rw [HE.out]; rfl, rfl⟩
    · have HE : Hid (lightB L n = true) := lightB_all (fun t ht => HT.out t (by omega))
      go_wp2
      go_ret
      exact ⟨by rw [HE.out]; rfl, rfl⟩

set_option maxHeartbeats 1000000 in
theorem sameH_any (v x : Value) (l : List H) (w : World) (hv0 : RdH w v l) (hx : RdH w x l) :
    Calls Try.prog 17 #[v, x] w fun e w' => e = .returned (.bool true) ∧ Below w.heap.size w w' := by
  obtain ⟨av, cv, rfl⟩ := hv0.len
  obtain ⟨ax, cx, rfl⟩ := hx.len
  have HV : Hid (RdH w (.slice av l.length cv) l) := hv0
  have HX : Hid (RdH w (.slice ax l.length cx) l) := hx
  have hc1 := hv0.cap
  have hc2 := hx.cap
  clear hv0 hx
  go_enter Try.func17, Try.ntmps17
  go_wp2
  go_loopw [5] (fun i wr => ∃ j : Nat, i = .int .i64 (j : Int) ∧ j ≤ l.length ∧ Hid (Below w.heap.size w wr)) (fun i _ => l.length - (intOf i).toNat)
  case atStart => exact ⟨0, rfl, by omega, Below.refl _ _⟩
  case round =>
    obtain ⟨j, rfl, hj, HB⟩ := hrel
    by_cases hjl : j < l.length
    · obtain ⟨b1, o1, rfl, a0, a1, a2⟩ := HV.out.at HB.out j hjl
      obtain ⟨b2, o2, rfl, c0, c1, c2⟩ := HX.out.at HB.out j hjl
      generalize l.getD j hz = y at a0 a1 a2 c0 c1 c2
      obtain ⟨y1, y2, y3⟩ := y
      dsimp only at a0 a1 a2 c0 c1 c2
      go_upto_region 6 with fail
      go_quiet (fail)
      go_wp2
      go_roundw
      case rel => exact ⟨j + 1, by go_num, by omega, bnext HB.out ⟨rfl, rfl, rfl, Nat.le_refl _, fun _ _ => rfl⟩⟩
      case measure => simp [intOf]; omega
    · go_wp2
      go_ret
      exact ⟨rfl, HB.out⟩

abbrev exA : List H := [(0, 2, 5)]
abbrev exB : List H := [(1, 1, 6)]
abbrev exM : List H := [(0, 2, 5), (1, 1, 6)]
theorem ex_merge : mergeV exA exB = (exM, 0) := by decide +kernel
theorem ex_cmp : cmpV exA exB = 2 := by decide +kernel
theorem ex_right : rightB exM = true := by decide +kernel
theorem ok_small {a b c : Int} (ha : 0 ≤ a ∧ a ≤ 1000) (hb : 0 ≤ b ∧ b ≤ 1000) (hc : 0 ≤ c ∧ c ≤ 1000) : HOk (a, b, c) := ⟨⟨by show _ ≤ a; omega, by show a ≤ _; omega⟩, ⟨by show _ ≤ b; omega, by show b ≤ _; omega⟩, ⟨by show _ ≤ c; omega, by show c < _; omega⟩⟩

set_option maxHeartbeats 1000000 in
set_option maxRecDepth 20000 in
theorem alive_any (w : World) : Calls Try.prog 10 #[] w fun e w' => e = .returned (.bool true) ∧ Below w.heap.size w w' := by
  obtain ⟨w1, hw1⟩ : ∃ w1, w1 = (w.alloc (.cells #[.int .i64 0, .int .i64 2, .int .u64 5] 25)).alloc (.cells #[.int .i64 1, .int .i64 1, .int .u64 6] 25) := ⟨_, rfl⟩
  have HA : Hid (RdH w1 (.slice (some ⟨w.heap.size, 0, none⟩) 1 1) exA) := by show RdH _ _ _; rw [hw1]; exact (rdH_one w (0, 2, 5) (ok_small (by omega) (by omega) (by omega))).below (balloc (Below.refl _ _) _)
  have HB : Hid (RdH w1 (.slice (some ⟨w.heap.size + 1, 0, none⟩) 1 1) exB) := by show RdH _ _ _; rw [hw1]; exact rdH_one' (w.alloc (.cells #[.int .i64 0, .int .i64 2, .int .u64 5] 25)) (1, 1, 6) _ (ok_small (by omega) (by omega) (by omega)) (by simp)
  have HW : Hid (Below w.heap.size w w1) := by show Below _ _ _; rw [hw1]; exact balloc (balloc (Below.refl _ _) _) _
  have hM := fun w' h1 h2 => merge_any (.slice (some ⟨w.heap.size, 0, none⟩) 1 1) (.slice (some ⟨w.heap.size + 1, 0, none⟩) 1 1) exA exB w' h1 h2
  have hC := fun w' h1 h2 => compare_any (.slice (some ⟨w.heap.size, 0, none⟩) 1 1) (.slice (some ⟨w.heap.size + 1, 0, none⟩) 1 1) exA exB w' h1 h2
  rw [ex_merge] at hM
  rw [ex_cmp] at hC
  have HR : Hid (∀ v w', RdH w' v exM → Calls Try.prog 13 #[v] w' fun e w'' => e = .returned (.bool true) ∧ Below w'.heap.size w' w'') := fun v w' h => by have := rightV_any v exM w' h; rwa [ex_right] at this
  go_enter Try.func10, Try.ntmps10
  go_upto_region 3 with fail
  rw [← hw1]
  clear hw1
  go_wp2_with (first
    | (go_at_call 20; refine (hM _ HA.out HB.out).mono ?_; rintro e w2 ⟨v2, rfl, ho2, hb2⟩
       obtain ⟨a2, c2, rfl⟩ := ho2.rd.len
       have HO : Hid (RdH w2 (.slice a2 2 c2) exM) := ho2.rd
       clear ho2)
    | (go_at_call 22; refine (hC _ (HA.out.below hb2) (HB.out.below hb2)).mono ?_; rintro e w3 ⟨rfl, hb3⟩
       obtain ⟨bm, om, rfl, g0, g1, g2⟩ := HO.out.at hb3 1 (by decide)
       have g2' : w3.cell? ⟨bm, om + 1 * 3 + 2, none⟩ = some (.int .u64 6) := g2
       clear g0 g1 g2)
    | (go_at_call 13; refine (HR.out _ _ (HO.out.below hb3)).mono ?_; rintro e w4 ⟨rfl, hb4⟩))
  go_ret
  exact ⟨rfl, bnext (bnext (bnext HW.out hb2) hb3) hb4⟩
end Go.Proofs.Ytdjfedlkfekeoaa
