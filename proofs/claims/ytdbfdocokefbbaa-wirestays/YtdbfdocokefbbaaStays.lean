/-
  The walk of WireStays: a reader that is wrong tells nothing more, and stays wrong as it was; a nil one, too.
-/
import Derived.Test.YtdbfdocokefbbaaText
import Derived.Test.YtdbfdocokefbbaaAlive
namespace Go.Proofs.Ytdbfdocokefbbaa
set_option linter.unusedVariables false
open Go.RowKit

/-- A slice of structs of two ints, in memory. -/
def Pairs (w : World) (v : Value) (n : Nat) (p q : Nat → Int) : Prop :=
  ∃ a cap, v = .slice a n cap ∧ n ≤ cap ∧ cap ≤ maxLen ∧ (0 < n → ∃ b off, a = some ⟨b, off, none⟩ ∧ ∀ i, i < n → w.cell? ⟨b, off + i * 2, none⟩ = some (.int .i64 (p i)) ∧ w.cell? ⟨b, off + i * 2 + 1, none⟩ = some (.int .i64 (q i)) ∧
    (-9223372036854775808 ≤ p i ∧ p i ≤ 9223372036854775807) ∧ (-9223372036854775808 ≤ q i ∧ q i ≤ 9223372036854775807))

/-- How many bytes a reader has, off the memory. -/
def leftLen (w : World) (b : Nat) : Nat := match w.cell? ⟨b, 0, none⟩ with
  | some (.slice _ n _) => n
  | _ => 0

theorem Rdr.leftLen {w : World} {b : Nat} {l : List Int} {k : Int} (h : Rdr w b l k) : leftLen w b = l.length := by
  obtain ⟨v, hv, hr⟩ := h.left
  obtain ⟨a, cap, rfl⟩ := hr.len
  unfold Ytdbfdocokefbbaa.leftLen
  rw [hv]

set_option maxHeartbeats 4000000 in
set_option maxRecDepth 20000 in
theorem stays_core (v u : Value) (l : List Int) (n : Nat) (p q : Nat → Int) (w : World) (hv : Rd w v l) (hu : Pairs w u n p q) (hl : l.length ≤ 1000) (hn : n ≤ 60) :
    Calls Try.prog 6 #[v, u] w fun e w' => e = .returned (.bool true) ∧ Below w.heap.size w w' := by
  obtain ⟨av, cv, rfl⟩ := hv.len
  obtain ⟨au, cu, rfl, hu1, hu2, hu3⟩ := hu
  go_enter Try.func6, Try.ntmps6
  go_wp2_with (first
    | (go_at_call 18; go_must (refine (read_any _ _ l hv (by omega)).mono ?_; rintro e w1 ⟨b, rfl, hb, hr0, hg⟩; have hB := grown_below hg; clear hg)))
  go_loopw [20] (fun _ wr => (∃ l' k', Rdr wr b l' k' ∧ l'.length ≤ 1000) ∧ Below w.heap.size w wr) (fun _ wr => leftLen wr b)
  case atStart => exact ⟨⟨l, 0, hr0, hl⟩, hB⟩
  case round =>
    obtain ⟨⟨l', k', hr, hl'⟩, hBr⟩ := hrel
    clear hr0 hB hv
    by_cases hpos : 0 < l'.length
    · have hk0 : k' = 0 := by
        by_cases h : k' = 0
        · exact h
        · rw [hr.gone h] at hpos; simp at hpos
      subst hk0
      have hd : doneK l' 0 = 4 := by unfold doneK; rw [if_pos ⟨rfl, hpos⟩]
      have hlen0 : ∀ k, (rCount (rBytes l' 0 0).2.1 k (-1)).2.1 = [] := by
        intro k
        unfold rCount
        rw [if_pos (by omega)]
      go_wp2_with (first
        | (go_at_call 23; go_must (refine (done_any _ b _ _ hr).mono ?_; rw [hd]; rintro e w8 ⟨rfl, rfl⟩))
        | (go_at_call 24; go_must (refine (left_any _ b _ _ hr).mono ?_; rintro e w8 ⟨rfl, rfl⟩))
        | (go_at_call 21; go_must (refine (rbytes_any _ b l' 0 0 hr (by omega) (by omega)).mono ?_; rintro e w2 ⟨y, rfl, hy, hr2, hg2⟩; replace hBr := bgrown hBr hb hg2; clear hg2 hy))
        | (go_at_call 25; go_must (refine (rcount_any _ b _ _ (-1) hr2 (by omega)).mono ?_; rintro e w3 ⟨rfl, hr3, hg3⟩; replace hBr := bgrown hBr hb hg3; clear hg3 hr2)))
      go_roundw
      case rel => exact ⟨⟨_, _, hr3, by rw [hlen0]; simp⟩, hBr⟩
      case measure => 
        show leftLen _ b < leftLen _ b
        rw [hr3.leftLen, hr.leftLen, hlen0]
        exact hpos
    · obtain rfl : l' = [] := List.eq_nil_of_length_eq_zero (by omega)
      have hd : doneK [] k' = k' := doneK_nil k'
      clear hpos hl'
      have hlt := fun i (hi : i < n) => hu3 (by omega)
      have h3 : k' = 0 ∨ k' = 4 ∨ (k' ≠ 0 ∧ k' ≠ 4) := by omega
      rcases h3 with rfl | hk4 | ⟨hk0, hk4⟩
      · go_wp2_with (first
          | (go_at_call 23; go_must (refine (done_any _ b _ _ hr).mono ?_; rw [hd]; rintro e w8 ⟨rfl, rfl⟩))
          | (go_at_call 24; go_must (refine (left_any _ b _ _ hr).mono ?_; rintro e w8 ⟨rfl, rfl⟩)))
        have hBr' := hBr
        clear hd hBr
        go_loopw [8] (fun i wr => ∃ j : Nat, j ≤ n ∧ i = .int .i64 j ∧ Below w.heap.size w wr) (fun i _ => n - (intOf i).toNat)
        case atStart => exact ⟨0, by omega, rfl, hBr'⟩
        case round =>
          obtain ⟨j, hj, rfl, hBr⟩ := hrel
          clear hr
          by_cases hjn : j < n
          · go_wp2_with (first
            | (go_at_call 19; refine (num_nil _).mono ?_; rintro e w9 ⟨rfl, rfl⟩)
            | (go_at_call 21; refine (bytes9_nil _).mono ?_; rintro e w9 ⟨rfl, rfl⟩)
            | (go_at_call 22; refine (bool_nil _).mono ?_; rintro e w9 ⟨rfl, rfl⟩)
            | (go_at_call 24; refine (left_nil _).mono ?_; rintro e w9 ⟨rfl, rfl⟩)
            | (go_at_call 23; refine (done_nilr _).mono ?_; rintro e w9 ⟨rfl, rfl⟩))
            go_roundw
            case rel => exact ⟨j + 1, by omega, by go_num, hBr⟩
            case measure => simp [intOf]; omega
          · go_wp2_with (first
              | (go_at_call 7; go_must (refine (alive_any _).mono ?_; rintro e w9 ⟨rfl, hb9⟩; replace hBr := bnext hBr hb9)))
            go_ret
            exact ⟨rfl, hBr⟩
      all_goals
        have hk : Hid (k' ≠ 0) := by show _ ≠ _; omega
        have hne : (k' != 0) = true := by have := hk.out; simpa using this
        have h4 : (k' == 4) = decide (k' = 4) := by by_cases h : k' = 4 <;> simp [h]
        first
          | rw [decide_eq_true hk4] at h4
          | rw [decide_eq_false hk4] at h4
        clear hk4
        try clear hk0
        go_wp2_with (first
          | (go_at_call 23; go_must (refine (done_any _ b _ _ hr).mono ?_; rw [hd]; rintro e w8 ⟨rfl, rfl⟩))
          | (go_at_call 24; go_must (refine (left_any _ b _ _ hr).mono ?_; rintro e w8 ⟨rfl, rfl⟩)))
        have hBr' := hBr
        have hr' := hr
        clear hBr hr
        go_loopw [8] (fun i wr => ∃ j : Nat, j ≤ n ∧ i = .int .i64 j ∧ Rdr wr b [] k' ∧ Below w.heap.size w wr) (fun i _ => n - (intOf i).toNat)
        case atStart => exact ⟨0, by omega, rfl, hr', hBr'⟩
        case round =>
          obtain ⟨j, hj, rfl, hr, hBr⟩ := hrel
          clear hr'
          by_cases hjn : j < n
          · obtain ⟨bu, ou, rfl, hcu⟩ := hu3 (by omega)
            obtain ⟨_, hc1, _, hq1⟩ := hcu j hjn
            have hblt := World.block_lt_of_cell? w _ hc1
            have HC1 : Hid (w.cell? ⟨bu, ou + j * 2 + 1, none⟩ = some (.int .i64 (q j))) := hc1
            have tk : Hid True := trivial
            clear hu3 hcu hc1
            go_wp2_with (first
              | (go_at_call 19; refine (wrong_num _ b k' hk.out hr).mono ?_; rintro e w2 ⟨rfl, hr1, hg⟩; replace hBr := bgrown hBr hb hg; clear hr hg)
              | (go_at_call 20; refine (wrong_int _ b k' hk.out hr1).mono ?_; rintro e w2 ⟨rfl, hr2, hg⟩; replace hBr := bgrown hBr hb hg; have hcj := (hBr.cell hblt).trans HC1.out; clear hr1 hg)
              | (go_at_call 25; refine (wrong_count _ b k' hk.out hr2 _ hq1).mono ?_; rintro e w2 ⟨rfl, hr3, hg⟩; replace hBr := bgrown hBr hb hg; have hcj := (hBr.cell hblt).trans HC1.out; clear hr2 hg)
              | (go_at_call 21; refine (wrong_bytes _ b k' hk.out hr3 _ hq1).mono ?_; rintro e w2 ⟨ya, yc, rfl, hr4, hg⟩; replace hBr := bgrown hBr hb hg; have hcj := (hBr.cell hblt).trans HC1.out; clear hr3 hg)
              | (go_at_call 26; refine (wrong_text _ b k' hk.out hr4 _ hq1).mono ?_; rintro e w2 ⟨rfl, hr5, hg⟩; replace hBr := bgrown hBr hb hg; clear hr4 hg)
              | (go_at_call 22; refine (wrong_bool _ b k' hk.out hr5).mono ?_; rintro e w2 ⟨rfl, hr6, hg⟩; replace hBr := bgrown hBr hb hg; clear hr5 hg)
              | (go_at_call 24; have _t := tk; refine (left_any _ b [] k' hr6).mono ?_; rintro e w2 ⟨rfl, rfl⟩; clear tk _t)
              | (go_at_call 23; refine (done_any _ b [] k' hr6).mono ?_; rw [hd]; rintro e w2 ⟨rfl, rfl⟩; have hr7 := hr6; clear hr6)
              | (go_at_call 19; refine (num_nil _).mono ?_; rintro e w9 ⟨rfl, rfl⟩)
              | (go_at_call 21; refine (bytes9_nil _).mono ?_; rintro e w9 ⟨rfl, rfl⟩)
              | (go_at_call 22; refine (bool_nil _).mono ?_; rintro e w9 ⟨rfl, rfl⟩)
              | (go_at_call 24; refine (left_nil _).mono ?_; rintro e w9 ⟨rfl, rfl⟩)
              | (go_at_call 23; refine (done_nilr _).mono ?_; rintro e w9 ⟨rfl, rfl⟩))
            go_roundw
            case rel => exact ⟨j + 1, by omega, by go_num, hr7, hBr⟩
            case measure => simp [intOf]; omega
          · go_wp2_with (first
              | (go_at_call 7; go_must (refine (alive_any _).mono ?_; rintro e w9 ⟨rfl, hb9⟩; replace hBr := bnext hBr hb9)))
            go_ret
            exact ⟨rfl, hBr⟩

set_option maxHeartbeats 1000000 in
theorem stays_walk (v u : Value) (l : List Int) (n : Nat) (p q : Nat → Int) (w : World) (hv : Rd w v l) (hu : Pairs w u n p q) :
    Calls Try.prog 6 #[v, u] w fun e w' => e = .returned (.bool true) ∧ Below w.heap.size w w' := by
  by_cases h : l.length ≤ 1000 ∧ n ≤ 60
  · exact stays_core v u l n p q w hv hu h.1 h.2
  · obtain ⟨av, cv, rfl⟩ := hv.len
    have hc := hv.cap
    obtain ⟨au, cu, rfl, hu1, hu2, _⟩ := hu
    unfold maxLen at hu2
    have h' : 1000 < l.length ∨ l.length ≤ 1000 ∧ 60 < n := by omega
    clear h hv
    rcases h' with h | ⟨h, h2⟩
    all_goals
      go_enter Try.func6, Try.ntmps6
      go_wp2_with (first | (go_at_call 7; go_must (refine (alive_any _).mono ?_; rintro e w1 ⟨rfl, hb⟩)))
      go_ret
      exact ⟨rfl, hb⟩

end Go.Proofs.Ytdbfdocokefbbaa
