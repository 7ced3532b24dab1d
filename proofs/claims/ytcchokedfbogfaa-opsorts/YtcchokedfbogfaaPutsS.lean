/-
  A stamp's form, put by the program and by the reference.
-/
import Derived.Test.YtcchokedfbogfaaChain
import Derived.Test.YtcchokedfbogfaaPut
import Derived.Test.YtcchokedfbogfaaRef
import Derived.Deep.DeepCutAuto
namespace Go.Proofs.Ytcchokedfbogfaa
set_option linter.unusedVariables false
open Go.RowKit

theorem below_undrew {w w' : World} (h : Below w.drew.heap.size w.drew w') : Below w.heap.size w w' := ⟨h.os, h.tape, h.output, h.size, h.block⟩
/-- A stamp's form. -/
def putS (s : S) : List Int := form (zig s.1) ++ form (max s.2 0).toNat
theorem putS_len (s : S) (hs : SOk s) : (putS s).length ≤ 20 := by
  obtain ⟨⟨h1, h2⟩, h3, h4⟩ := hs
  unfold putS
  rw [List.length_append]
  have e1 := form_le10 (n := zig s.1) (zig_lt s.1 ⟨h1, h2⟩)
  have e2 := form_le10 (n := (max s.2 0).toNat) (by omega)
  omega

set_option maxHeartbeats 1000000 in
set_option maxRecDepth 20000 in
theorem sput_any (v : Value) (l : List Int) (s : S) (w : World) (hv : Rd w v l) (hl : l.length ≤ 100000000) (hs : SOk s) :
    Calls Try.prog 79 #[v, sv s] w fun e w' => ∃ v', e = .returned v' ∧ Own w.heap.size 5 w' v' (l ++ putS s) ∧ Below w.heap.size w w' := by
  have HV : Hid (Rd w v l) := hv
  have HL : Hid (putS s = form (zig s.1) ++ form (max s.2 0).toNat) := rfl
  have HT : Hid ((form (zig s.1)).length ≤ 10) := form_le10 (zig_lt s.1 hs.1)
  obtain ⟨s1, s2⟩ := s
  obtain ⟨⟨h1, h2⟩, h3, h4⟩ := hs
  unfold sv
  rw [HL.out]
  dsimp only at *
  clear hv HL
  obtain ⟨n, hn, hn2⟩ : ∃ n : Nat, (max s2 0).toNat = n ∧ n < 18446744073709551616 := ⟨_, rfl, by omega⟩
  rw [hn]
  obtain ⟨w1, hw1⟩ : ∃ w1, w1 = w.alloc (.cells #[.int .i64 s1, .int .i64 s2] 23) := ⟨_, rfl⟩
  have X : Blk w1 w.heap.size 23 [.int .i64 s1, .int .i64 s2] := by rw [hw1]; exact blk_new w [.int .i64 s1, .int .i64 s2] 23
  have HB1 : Hid (Below w.heap.size w w1) := by show Below _ _ _; rw [hw1]; exact balloc (Below.refl _ _) _
  have HN : Hid (n < 18446744073709551616) := hn2
  clear hn2
  by_cases hneg : s2 < 0
  all_goals
    go_enter Try.func79, Try.ntmps79
    go_upto_region 1 with fail
    rw [← hw1]
    obtain ⟨nb, hnb⟩ : ∃ nb, nb = w.heap.size := ⟨_, rfl⟩
    rw [← hnb] at X ⊢
    clear hw1 hnb
    have q0 := fun z : WIn (fun w' => Below w1.heap.size w1 w') => (X.below z.ok).cell 0 _ rfl
    have q1 := fun z : WIn (fun w' => Below w1.heap.size w1 w') => (X.below z.ok).cell 1 _ rfl
    have ne : Nonempty (WIn (fun w' => Below w1.heap.size w1 w')) := ⟨⟨w1, Below.refl _ _⟩⟩
    refine wp_region_ord (C := fun w' => ∃ z : WIn (fun w' => Below w1.heap.size w1 w'), w' = z.w) [(false, 0), (false, 1), (false, 2), (false, 4), (false, 5), (false, 6), (false, 7), (true, 3), (true, 8), (false, 9)] (by kernel_rfl) (by kernel_rfl) ⟨⟨w1.drew, (Below.refl _ _).drew⟩, rfl⟩ ?_
    iterate 7 (refine ord_still rfl rfl ?_; go_big_quiet_step (fail); refine wpQuiet_nil ?_)
    refine ord_mem rfl rfl ?_
    go_simp
    refine (int_any _ l s1 _ (HV.out.below HB1.out.drew) (by omega) ⟨h1, h2⟩).mono ?_
    rintro e w2 ⟨v2, rfl, hown2, hb2⟩
    have HB2 : Hid (Below w1.heap.size w1 w2) := below_undrew hb2
    have HO2 : Hid (Own w1.heap.size 5 w2 v2 (l ++ form (zig s1))) := hown2
    clear hb2 hown2
    refine ⟨⟨⟨w2, HB2.out⟩, rfl⟩, ?_⟩
    have hN := num_any v2 (l ++ form (zig s1)) n w2 HO2.out.rd (by have := HT.out; rw [List.length_append]; omega) HN.out
    first
      | (have e : (n : Int) = s2 := (by omega); rw [e] at hN)
      | (have e : (n : Int) = 0 := (by omega); rw [e] at hN)
    refine ord_mem rfl rfl ?_
    go_simp
    refine hN.mono ?_
    rintro e w3 ⟨v3, rfl, hown3, hb3⟩
    have HB3 : Hid (Below w2.heap.size w2 w3) := hb3
    have HO3 : Hid (Own w2.heap.size 5 w3 v3 (l ++ form (zig s1) ++ form n)) := hown3
    clear hb3 hown3 hN
    refine ⟨⟨⟨w3, bnext HB2.out HB3.out⟩, rfl⟩, ?_⟩
    refine ord_still rfl rfl ?_
    go_big_quiet_step (fail)
    refine wpQuiet_nil ?_
    refine ord_end ?_
    clear q0 q1 ne
    go_wp2
    go_ret
    refine ⟨_, rfl, ?_, bnext (bnext HB1.out HB2.out) HB3.out⟩
    rw [← List.append_assoc]
    exact HO3.out.lower (Nat.le_trans HB1.out.size HB2.out.size)

set_option maxHeartbeats 1000000 in
set_option maxRecDepth 20000 in
theorem refput_any (s : S) (w : World) (hs : SOk s) :
    Calls Try.prog 30 #[sv s] w fun e w' => ∃ v', e = .returned v' ∧ Own w.heap.size 5 w' v' (putS s) ∧ Below w.heap.size w w' := by
  have HL : Hid (putS s = form (zig s.1) ++ form (max s.2 0).toNat) := rfl
  have HT : Hid ((form (zig s.1)).length ≤ 10) := form_le10 (zig_lt s.1 hs.1)
  obtain ⟨s1, s2⟩ := s
  obtain ⟨⟨h1, h2⟩, h3, h4⟩ := hs
  unfold sv
  rw [HL.out]
  dsimp only at *
  clear HL
  obtain ⟨n, hn, hn2⟩ : ∃ n : Nat, (max s2 0).toNat = n ∧ n < 18446744073709551616 := ⟨_, rfl, by omega⟩
  rw [hn]
  obtain ⟨w1, hw1⟩ : ∃ w1, w1 = w.alloc (.cells #[.int .i64 s1, .int .i64 s2] 23) := ⟨_, rfl⟩
  have X : Blk w1 w.heap.size 23 [.int .i64 s1, .int .i64 s2] := by rw [hw1]; exact blk_new w [.int .i64 s1, .int .i64 s2] 23
  have HB1 : Hid (Below w.heap.size w w1) := by show Below _ _ _; rw [hw1]; exact balloc (Below.refl _ _) _
  have HN : Hid (n < 18446744073709551616) := hn2
  have HFL : Hid ((form n).length ≤ 10) := form_le10 hn2
  clear hn2
  by_cases hneg : s2 < 0
  all_goals
    go_enter Try.func30, Try.ntmps30
    go_upto_region 1 with fail
    rw [← hw1]
    obtain ⟨nb, hnb⟩ : ∃ nb, nb = w.heap.size := ⟨_, rfl⟩
    rw [← hnb] at X ⊢
    clear hw1 hnb
    have q0 := fun z : WIn (fun w' => Below w1.heap.size w1 w') => (X.below z.ok).cell 0 _ rfl
    have q1 := fun z : WIn (fun w' => Below w1.heap.size w1 w') => (X.below z.ok).cell 1 _ rfl
    have ne : Nonempty (WIn (fun w' => Below w1.heap.size w1 w')) := ⟨⟨w1, Below.refl _ _⟩⟩
    refine wp_region_ord (C := fun w' => ∃ z : WIn (fun w' => Below w1.heap.size w1 w'), w' = z.w) [(false, 0), (false, 1), (false, 3), (false, 4), (false, 5), (false, 6), (true, 2), (true, 7), (true, 8), (false, 9)] (by kernel_rfl) (by kernel_rfl) ⟨⟨w1.drew, (Below.refl _ _).drew⟩, rfl⟩ ?_
    iterate 6 (refine ord_still rfl rfl ?_; go_big_quiet_step (fail); refine wpQuiet_nil ?_)
    refine ord_mem rfl rfl ?_
    go_simp
    refine (refint_any s1 _ ⟨h1, h2⟩).mono ?_
    rintro e w2 ⟨v2, rfl, hown2, hb2⟩
    have HB2 : Hid (Below w1.heap.size w1 w2) := below_undrew hb2
    have HO2 : Hid (Own w1.heap.size 5 w2 v2 (form (zig s1))) := hown2
    clear hb2 hown2
    refine ⟨⟨⟨w2, HB2.out⟩, rfl⟩, ?_⟩
    have hN := refnum n w2 HN.out
    first
      | (have e : (n : Int) = s2 := (by omega); rw [e] at hN)
      | (have e : (n : Int) = 0 := (by omega); rw [e] at hN)
    refine ord_mem rfl rfl ?_
    go_simp
    refine hN.mono ?_
    rintro e w3 ⟨v3, rfl, hown3, hb3⟩
    have HB3 : Hid (Below w2.heap.size w2 w3) := hb3
    have HO3 : Hid (Own w2.heap.size 5 w3 v3 (form n)) := hown3
    clear hb3 hown3 hN
    refine ⟨⟨⟨w3, bnext HB2.out HB3.out⟩, rfl⟩, ?_⟩
    refine ord_mem rfl rfl ?_
    refine wp_of_list rfl ?_
    refine wpList_append_cells 24 5 byteTy rfl (.tmp 5) (.tmp 10) rfl w1.heap.size v2 (form (zig s1)) rfl (HO2.out.kept (below_grown HB3.out)) v3 (form n) rfl HO3.out.rd (by have := HT.out; have := HFL.out; omega) (Nat.le_trans HB2.out.size HB3.out.size) ?_
    intro v4 w4 hown4 hg4
    have HO4 : Hid (Own w1.heap.size 5 w4 v4 (form (zig s1) ++ form n)) := hown4
    have HB4 : Hid (Below w1.heap.size w1 w4) := (bnext HB2.out HB3.out).grown hg4 (Nat.le_trans HB2.out.size HB3.out.size) (fun k hk => (HO2.out.2.lt k hk).1)
    clear hown4 hg4
    refine ⟨rfl, ⟨⟨w4, HB4.out⟩, rfl⟩, ?_⟩
    go_simp
    refine ord_still rfl rfl ?_
    go_big_quiet_step (fail)
    refine wpQuiet_nil ?_
    refine ord_end ?_
    clear q0 q1 ne
    go_wp2
    go_ret
    exact ⟨_, rfl, HO4.out.lower HB1.out.size, bnext HB1.out HB4.out⟩
end Go.Proofs.Ytcchokedfbogfaa
