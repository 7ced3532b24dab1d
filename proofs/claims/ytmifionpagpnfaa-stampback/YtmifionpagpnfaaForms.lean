/-
  The walk of StampForms: a stamp's form, and the stamp that any bytes begin with.
-/
import Derived.Test.YtmifionpagpnfaaGot
import Derived.Test.YtmifionpagpnfaaPuts
import Derived.Test.YtmifionpagpnfaaSame
namespace Go.Proofs.Ytmifionpagpnfaa
set_option linter.unusedVariables false
open Go.RowKit

/-- A reader stays while another one is written. -/
theorem Rdr.past {w w' : World} {b c : Nat} {l m : List Int} {k q : Int} (h : Rdr w c l k) (hr : Rdr w b m q) (hg : w.grownBy w' (some b)) (hb : c ≠ b) : Rdr w' c l k := by
  obtain ⟨v, hv, hrd⟩ := h.left
  have hbl : w'.heap[c]? = w.heap[c]? := hg.block c (World.block_lt_of_cell? w _ hv) (fun e => hb (Option.some.inj e))
  exact ⟨⟨v, (World.cell?_of_block hbl).trans hv, hrd.past hr hg⟩, (World.cell?_of_block hbl).trans h.wrong, (World.frozen?_of_block hbl).trans h.f0, (World.frozen?_of_block hbl).trans h.f1, fun o ho => (World.cell?_of_block hbl).trans (h.two o ho), h.gone⟩
theorem Rdr.below {w w' : World} {l : List Int} {b : Nat} {k : Int} (h : Rdr w b l k) (hg : Below w.heap.size w w') : Rdr w' b l k := h.kept (below_grown hg)

set_option maxHeartbeats 2000000 in
set_option maxRecDepth 20000 in
theorem forms_core (s : S) (v : Value) (l : List Int) (w : World) (hs : SOk s) (hv : Rd w v l) (hl : l.length ≤ 300) :
    Calls Try.prog 4 #[sv s, v] w fun e w' => e = .returned (.bool true) ∧ Below w.heap.size w w' := by
  obtain ⟨av, cv, rfl⟩ := hv.len
  have HV : Hid (Rd w (.slice av l.length cv) l) := hv
  have hcap := hv.cap
  have HS : Hid (SOk s) := hs
  obtain ⟨w0, hw0⟩ : ∃ w0, w0 = w.alloc (.cells #[.int .i64 s.1, .int .i64 s.2] 23) := ⟨_, rfl⟩
  have HX : Hid (Blk w0 w.heap.size 23 [.int .i64 s.1, .int .i64 s.2]) := by show Blk _ _ _ _; rw [hw0]; exact blk_new w [.int .i64 s.1, .int .i64 s.2] 23
  have HB0 : Hid (Below w.heap.size w w0) := by show Below _ _ _; rw [hw0]; exact balloc (Below.refl _ _) _
  clear hv hs
  have HSV : Hid (sv s = .agg #[.int .i64 s.1, .int .i64 s.2]) := rfl
  rw [HSV.out]
  go_enter Try.func4, Try.ntmps4
  go_upto_region 1 with fail
  rw [← hw0]
  obtain ⟨nb, hnb⟩ : ∃ nb, nb = w.heap.size := ⟨_, rfl⟩
  rw [← hnb]
  have HNB : Hid (nb = w.heap.size) := hnb
  clear hw0 hnb
  go_upto_region 4 with (first
    | (go_at_call 21; go_must (refine (read_any _ _ l (HV.out.below HB0.out) (by omega)).mono ?_; rintro e w1 ⟨b, rfl, hb, hr, hg⟩)))
  have HR1 : Hid (Rdr w1 b l 0) := hr
  have HB1 : Hid (Below w0.heap.size w0 w1) := grown_below hg
  have HbL : Hid (w0.heap.size ≤ b) := hb
  clear hr hg hb
  go_upto_region 5 with fail
  obtain ⟨w2, hw2⟩ : ∃ w2, w2 = w1.alloc (.cells #[.slice av l.length cv, .int .i64 0] 39) := ⟨_, rfl⟩
  rw [← hw2]
  obtain ⟨c, hc⟩ : ∃ c, c = w1.heap.size := ⟨_, rfl⟩
  rw [← hc]
  have HM2 : Hid (Rdr w2 c l 0) := by show Rdr _ _ _ _; rw [hw2, hc]; exact rdr_new w1 _ l 39 (HV.out.below (bnext HB0.out HB1.out))
  have HB2 : Hid (Below w1.heap.size w1 w2) := by show Below _ _ _; rw [hw2]; exact balloc (Below.refl _ _) _
  have HR2 : Hid (Rdr w2 b l 0) := HR1.out.below HB2.out
  have HCB : Hid (b < c) := by show _ < _; rw [hc]; exact HR1.out.lt
  clear hw2 hc
  obtain ⟨⟨g1, g2⟩, l', k', hgot⟩ : ∃ g l' k', gotS l 0 = (g, l', k') := ⟨_, _, _, rfl⟩
  have hG := get_any w2 b l 0 HR2.out
  have HM : Hid (∀ w', Rdr w' c l 0 → Calls Try.prog 23 #[ptr c] w' fun e w'' => e = .returned (.agg #[.int .i64 g1, .int .i64 g2]) ∧ Rdr w'' c l' k' ∧ w'.grownBy w'' (some c)) := fun w' h => by
    have := refget_any w' c l 0 h
    rw [hgot] at this
    exact this
  rw [hgot] at hG
  simp only [sv] at hG
  clear hgot
  go_upto_region 6 with (first
    | (go_at_call 22; refine hG.mono ?_; rintro e w3 ⟨rfl, hr3, hg3⟩; have HR3 : Hid (Rdr w3 b l' k') := hr3; have HG3 : Hid (w2.grownBy w3 (some b)) := hg3; have HM3 : Hid (Rdr w3 c l 0) := HM2.out.past HR2.out hg3 (by have := HCB.out; omega); clear hr3 hg3)
    | (go_at_call 23; refine (HM.out _ HM3.out).mono ?_; rintro e w4 ⟨rfl, hr4, hg4⟩; have HM4 : Hid (Rdr w4 c l' k') := hr4; have HG4 : Hid (w3.grownBy w4 (some c)) := hg4; have HR4 : Hid (Rdr w4 b l' k') := HR3.out.past HM3.out hg4 (by have := HCB.out; omega); clear hr4 hg4))
  obtain ⟨w5, hw5⟩ : ∃ w5, w5 = (w4.alloc (.cells #[.int .i64 g1, .int .i64 g2] 23)).alloc (.cells #[.int .i64 g1, .int .i64 g2] 23) := ⟨_, rfl⟩
  rw [← hw5]
  have HB4 : Hid (Below w.heap.size w w4) := by
    have h2 := bnext (bnext HB0.out HB1.out) HB2.out
    have hbc : w.heap.size ≤ b := Nat.le_trans HB0.out.size HbL.out
    exact bgrown (bgrown h2 hbc HG3.out) (Nat.le_trans hbc (Nat.le_of_lt HCB.out)) HG4.out
  have HB5 : Hid (Below w4.heap.size w4 w5) := by show Below _ _ _; rw [hw5]; exact balloc (balloc (Below.refl _ _) _) _
  have X7 : Blk w5 w4.heap.size 23 [.int .i64 g1, .int .i64 g2] := by rw [hw5]; exact (blk_new w4 [.int .i64 g1, .int .i64 g2] 23).alloc _
  have X8 : Blk w5 (w4.heap.size + 1) 23 [.int .i64 g1, .int .i64 g2] := by rw [hw5]; have := blk_new (w4.alloc (.cells #[.int .i64 g1, .int .i64 g2] 23)) [.int .i64 g1, .int .i64 g2] 23; simpa using this
  have X2 : Blk w5 nb 23 [.int .i64 s.1, .int .i64 s.2] := by
    have h1 := (HX.out.below HB1.out).below HB2.out
    have hlt := HX.out.lt
    have hb := HbL.out
    have hcb := HCB.out
    rw [← HNB.out] at h1 hlt
    exact ((h1.block (HG3.out.block _ h1.lt (fun e => by have := Option.some.inj e; omega))).block (HG4.out.block _ (by have := HG3.out.size; have := h1.lt; omega) (fun e => by have := Option.some.inj e; omega))).below HB5.out
  obtain ⟨n7, hn7⟩ : ∃ n7, n7 = w4.heap.size := ⟨_, rfl⟩
  rw [← hn7] at X7 X8 ⊢
  have HR5 : Hid (Rdr w5 b l' k') := HR4.out.below HB5.out
  have HM5 : Hid (Rdr w5 c l' k') := HM4.out.below HB5.out
  clear hw5 hn7 hG
  have q0 := fun z : WIn (fun w' => Below w5.heap.size w5 w') => (X2.below z.ok).cell 0 _ rfl
  have q1 := fun z : WIn (fun w' => Below w5.heap.size w5 w') => (X2.below z.ok).cell 1 _ rfl
  have q2 := fun z : WIn (fun w' => Below w5.heap.size w5 w') => (X7.below z.ok).cell 0 _ rfl
  have q3 := fun z : WIn (fun w' => Below w5.heap.size w5 w') => (X7.below z.ok).cell 1 _ rfl
  have q4 := fun z : WIn (fun w' => Below w5.heap.size w5 w') => (X8.below z.ok).cell 0 _ rfl
  have q5 := fun z : WIn (fun w' => Below w5.heap.size w5 w') => (X8.below z.ok).cell 1 _ rfl
  have ne : Nonempty (WIn (fun w' => Below w5.heap.size w5 w')) := ⟨⟨w5, Below.refl _ _⟩⟩
  refine wp_region_ord (C := fun w' => ∃ z : WIn (fun w' => Below w5.heap.size w5 w'), w' = z.w) [(false, 0), (false, 2), (true, 1), (true, 3), (true, 4), (false, 5), (false, 6), (false, 7), (false, 8), (false, 9), (false, 10), (false, 11), (false, 13), (true, 12), (true, 14), (false, 15), (false, 16), (false, 17), (true, 18), (false, 19), (false, 20)] (by kernel_rfl) (by kernel_rfl) ⟨⟨w5.drew, (Below.refl _ _).drew⟩, rfl⟩ ?_
  iterate 2 (refine ord_still rfl rfl ?_; go_big_quiet_step (fail); refine wpQuiet_nil ?_)
  refine ord_mem rfl rfl ?_
  go_simp
  refine (put_any _ [] s _ (rd_nil _) (by simp) HS.out).mono ?_
  rintro e w6 ⟨v6, rfl, hown6, hb6⟩
  have HB6 : Hid (Below w5.heap.size w5 w6) := below_undrew hb6
  have HO6 : Hid (Rd w6 v6 (putS s)) := by have := hown6.rd; rwa [List.nil_append] at this
  clear hb6 hown6
  refine ⟨⟨⟨w6, HB6.out⟩, rfl⟩, ?_⟩
  refine ord_mem rfl rfl ?_
  go_simp
  refine (refput_any s _ HS.out).mono ?_
  rintro e w7 ⟨v7, rfl, hown7, hb7⟩
  have HB7 : Hid (Below w6.heap.size w6 w7) := hb7
  have HO7 : Hid (Rd w7 v7 (putS s)) := hown7.rd
  clear hb7 hown7
  refine ⟨⟨⟨w7, bnext HB6.out HB7.out⟩, rfl⟩, ?_⟩
  refine ord_mem rfl rfl ?_
  go_simp
  refine (same_any _ _ _ _ _ (HO6.out.below HB7.out) HO7.out).mono ?_
  rw [decide_eq_true rfl]
  rintro e w8 ⟨rfl, hb8⟩
  have HB8 : Hid (Below w5.heap.size w5 w8) := bnext (bnext HB6.out HB7.out) hb8
  clear hb8
  refine ⟨⟨⟨w8, HB8.out⟩, rfl⟩, ?_⟩
  iterate 8 (refine ord_still rfl rfl ?_; go_big_quiet_step (fail); refine wpQuiet_nil ?_)
  refine ord_mem rfl rfl ?_
  go_simp
  refine (done_any w8 b l' k' (HR5.out.below HB8.out)).mono ?_
  rintro e w9 ⟨rfl, rfl⟩
  refine ⟨⟨⟨_, HB8.out⟩, rfl⟩, ?_⟩
  refine ord_mem rfl rfl ?_
  go_simp
  refine (refdone_any w9 c l' k' (HM5.out.below HB8.out)).mono ?_
  rintro e w10 ⟨rfl, rfl⟩
  refine ⟨⟨⟨_, HB8.out⟩, rfl⟩, ?_⟩
  iterate 3 (refine ord_still rfl rfl ?_; go_big_quiet_step (fail); refine wpQuiet_nil ?_)
  refine ord_mem rfl rfl ?_
  go_simp
  refine (alive_any w10).mono ?_
  rintro e w11 ⟨rfl, hb11⟩
  have HB11 : Hid (Below w5.heap.size w5 w11) := bnext HB8.out hb11
  clear hb11
  refine ⟨⟨⟨w11, HB11.out⟩, rfl⟩, ?_⟩
  iterate 2 (refine ord_still rfl rfl ?_; go_big_quiet_step (fail); refine wpQuiet_nil ?_)
  refine ord_end ?_
  clear q0 q1 q2 q3 q4 q5 ne
  go_wp2
  go_ret
  exact ⟨rfl, bnext (bnext HB4.out HB5.out) HB11.out⟩

set_option maxHeartbeats 1000000 in
theorem forms_walk (s : S) (v : Value) (l : List Int) (w : World) (hs : SOk s) (hv : Rd w v l) :
    Calls Try.prog 4 #[sv s, v] w fun e w' => e = .returned (.bool true) ∧ Below w.heap.size w w' := by
  by_cases hl : l.length ≤ 300
  · exact forms_core s v l w hs hv hl
  · obtain ⟨av, cv, rfl⟩ := hv.len
    have hcap := hv.cap
    obtain ⟨s1, s2⟩ := s
    unfold sv
    clear hv hs
    go_enter Try.func4, Try.ntmps4
    go_wp2_with (go_at_call 9; refine (alive_any _).mono ?_; rintro e w5 ⟨rfl, hb5⟩)
    go_ret
    exact ⟨rfl, bnext (balloc (Below.refl _ _) _) hb5⟩
end Go.Proofs.Ytmifionpagpnfaa
