/-
  An entry that is taken from a reader, by the program.
-/
import Derived.Test.YtiebbglknmcnpaaBytesE
namespace Go.Proofs.Ytiebbglknmcnpaa
set_option linter.unusedVariables false
set_option linter.unusedSimpArgs false
set_option synthInstance.maxSize 20000
set_option maxHeartbeats 2000000
set_option maxRecDepth 20000
open Go.RowKit Go.Maps

theorem narrow_any (n : Int) (w : World) : Calls Try.prog 69 #[.int .i64 n] w fun e w' => e = .returned (.int .i64 (narrowI n)) ∧ w' = w := by
  by_cases h1 : n ≤ -2
  · have HN : Hid (narrowI n = -2) := by show _ = _; unfold narrowI; omega
    go_enter Try.func69, Try.ntmps69
    go_wp2
    go_ret
    exact ⟨by rw [HN.out]; rfl, rfl⟩
  · by_cases h2 : 20 < n
    · have HN : Hid (narrowI n = 20) := by show _ = _; unfold narrowI; omega
      go_enter Try.func69, Try.ntmps69
      go_wp2
      go_ret
      exact ⟨by rw [HN.out]; rfl, rfl⟩
    · have HN : Hid (narrowI n = n) := by show _ = _; unfold narrowI; omega
      go_enter Try.func69, Try.ntmps69
      go_wp2
      go_ret
      exact ⟨by rw [HN.out]; rfl, rfl⟩

/-- Cells of which none is a byte. -/
def NoByte (vs : List Value) : Prop := ∀ u ∈ vs, ∀ x, u ≠ .int .u8 x
theorem Rd.pastB {w w' : World} {v : Value} {l : List Int} {c : Nat} {e : TypeId} {vs : List Value} (h : Rd w v l) (hX : Blk w c e vs) (hn : NoByte vs) (hg : w.grownBy w' (some c)) : Rd w' v l := by
  obtain ⟨ho, a, cap, rfl, h1, h2, h3, h4⟩ := h
  refine ⟨ho, a, cap, rfl, h1, h2, h3, fun hp => ?_⟩
  obtain ⟨d, off, rfl, hc⟩ := h4 hp
  refine ⟨d, off, rfl, fun j hj => hg.cell (hc j hj) fun e => ?_⟩
  obtain rfl : d = c := by simpa using e
  have hcj := hc j hj
  unfold Blk at hX
  simp only [World.cell?, hX] at hcj
  have : (vs.toArray)[off + j]? = some (.int .u8 (l.getD j 0)) := by simpa using hcj
  rw [List.getElem?_toArray] at this
  exact hn _ (List.mem_of_getElem? this) _ rfl
theorem Rdr.pastB {w w' : World} {b c : Nat} {l : List Int} {k : Int} {e : TypeId} {vs : List Value} (h : Rdr w b l k) (hX : Blk w c e vs) (hn : NoByte vs) (hg : w.grownBy w' (some c)) (hb : b ≠ c) : Rdr w' b l k := by
  obtain ⟨v, hv, hrd⟩ := h.left
  have hbl : w'.heap[b]? = w.heap[b]? := hg.block b (World.block_lt_of_cell? w _ hv) (fun e => hb (Option.some.inj e))
  exact ⟨⟨v, (World.cell?_of_block hbl).trans hv, hrd.pastB hX hn hg⟩, (World.cell?_of_block hbl).trans h.wrong, (World.frozen?_of_block hbl).trans h.f0, (World.frozen?_of_block hbl).trans h.f1, fun o ho => (World.cell?_of_block hbl).trans (h.two o ho), h.gone⟩
theorem grown_set8 (w : World) (c : Nat) (u0 u1 u2 u3 u4 u5 u6 u7 : Value) : w.grownBy ((((((((w.setCell ⟨c, 0, none⟩ u0).setCell ⟨c, 1, none⟩ u1).setCell ⟨c, 2, none⟩ u2).setCell ⟨c, 3, none⟩ u3).setCell ⟨c, 4, none⟩ u4).setCell ⟨c, 5, none⟩ u5).setCell ⟨c, 6, none⟩ u6).setCell ⟨c, 7, none⟩ u7) (some c) := by
  iterate 7 refine grown_trans ?_ (grown_setCell _ _ _ _) (fun k hk => .inl hk)
  exact grown_setCell _ _ _ _
theorem Blk.set8 {w : World} {c : Nat} {e : TypeId} {x0 x1 x2 x3 x4 x5 x6 x7 : Value} (h : Blk w c e [x0, x1, x2, x3, x4, x5, x6, x7]) (u0 u1 u2 u3 u4 u5 u6 u7 : Value) : Blk ((((((((w.setCell ⟨c, 0, none⟩ u0).setCell ⟨c, 1, none⟩ u1).setCell ⟨c, 2, none⟩ u2).setCell ⟨c, 3, none⟩ u3).setCell ⟨c, 4, none⟩ u4).setCell ⟨c, 5, none⟩ u5).setCell ⟨c, 6, none⟩ u6).setCell ⟨c, 7, none⟩ u7) c e [u0, u1, u2, u3, u4, u5, u6, u7] :=
  ((((((((h.set 0 u0).set 1 u1).set 2 u2).set 3 u3).set 4 u4).set 5 u5).set 6 u6).set 7 u7)

theorem take44_any (w : World) (b : Nat) (l : List Int) (k : Int) (h : Rdr w b l k) (hl : l.length ≤ 1000000) :
    Calls Try.prog 44 #[ptr b] w fun r w' => ∃ v, r = .returned (ev (takeE l k).1 v) ∧ Rd w' v (takeE l k).1.b ∧ Rdr w' b (takeE l k).2.1 (takeE l k).2.2 ∧ w.grownBy w' (some b) := by
  have H : Hid (Rdr w b l k) := h
  have hlt := h.lt
  have ho := h.oct
  have C1 := fun w' (h : Rdr w' b l k) => rcount_any w' b l k 7 h (by omega)
  have L1 : (rCount l k 7).2.1.length ≤ 1000000 := by unfold rCount; split; simp; have := rNum_len l k ho; dsimp only; omega
  have O1 := rCount_oct (k := k) (most := 7) ho
  unfold takeE
  dsimp only
  generalize rCount l k 7 = c1 at *
  obtain ⟨x1, l1, k1⟩ := c1
  have C2 := fun w' (h : Rdr w' b l1 k1) => rcount_any w' b l1 k1 199 h (by omega)
  dsimp only at *
  have L2 : (rCount l1 k1 199).2.1.length ≤ 1000000 := by unfold rCount; split; simp; have := rNum_len l1 k1 O1; dsimp only; omega
  have O2 := rCount_oct (k := k1) (most := 199) O1
  generalize rCount l1 k1 199 = c2 at *
  obtain ⟨x2, l2, k2⟩ := c2
  have C3 := fun w' (h : Rdr w' b l2 k2) => rnum_any w' b l2 k2 h
  dsimp only at *
  have L3 : (rNum l2 k2).2.1.length ≤ 1000000 := by have := rNum_len l2 k2 O2; omega
  have O3 := rNum_oct (k := k2) O2
  generalize rNum l2 k2 = c3 at *
  obtain ⟨x3, l3, k3⟩ := c3
  have C4 := fun w' (h : Rdr w' b l3 k3) => get_any w' b l3 k3 h
  dsimp only at *
  have L4 : (gotS l3 k3).2.1.length ≤ 1000000 := by
    unfold gotS rCount
    split
    · simp
    · have h1 := rNum_len l3 k3 O3
      have h2 := rNum_len (rNum l3 k3).2.1 (rNum l3 k3).2.2 (rNum_oct O3)
      dsimp only
      omega
  have O4 := gotS_oct (k := k3) O3
  generalize gotS l3 k3 = c4 at *
  obtain ⟨⟨x4, s4⟩, l4, k4⟩ := c4
  have C5 := fun w' (h : Rdr w' b l4 k4) => rint_any w' b l4 k4 h
  dsimp only at *
  have L5 : (rNum l4 k4).2.1.length ≤ 1000000 := by have := rNum_len l4 k4 O4; omega
  have O5 := rNum_oct (k := k4) O4
  generalize rNum l4 k4 = c5 at *
  obtain ⟨x5, l5, k5⟩ := c5
  dsimp only at *
  have C6 := fun w' (h : Rdr w' b l5 k5) => rbytes_any w' b l5 k5 1100 h (by omega) (by omega)
  try dsimp only at *
  generalize rBytes l5 k5 1100 = c6 at *
  obtain ⟨x6, l6, k6⟩ := c6
  have C7 := fun w' (h : Rdr w' b l6 k6) => rnum_any w' b l6 k6 h
  dsimp only at *
  generalize rNum l6 k6 = c7 at *
  obtain ⟨x7, l7, k7⟩ := c7
  have CN := fun w' => narrow_any (zag x5) w'
  dsimp only at *
  generalize narrowI (zag x5) = n5 at *
  generalize zag x5 = z5 at *
  unfold sv at C4
  dsimp only at C4
  have D1 : Hid (∀ w', Rdr w' b l k → Calls Try.prog 66 #[ptr b, .int .i64 7] w' fun e w'' => e = .returned (.int .i64 x1) ∧ Rdr w'' b l1 k1 ∧ w'.grownBy w'' (some b)) := C1
  have D2 : Hid (∀ w', Rdr w' b l1 k1 → Calls Try.prog 66 #[ptr b, .int .i64 199] w' fun e w'' => e = .returned (.int .i64 x2) ∧ Rdr w'' b l2 k2 ∧ w'.grownBy w'' (some b)) := C2
  have D3 : Hid (∀ w', Rdr w' b l2 k2 → Calls Try.prog 67 #[ptr b] w' fun e w'' => e = .returned (.int .u64 (x3 : Int)) ∧ Rdr w'' b l3 k3 ∧ w'.grownBy w'' (some b)) := C3
  have D4 : Hid (∀ w', Rdr w' b l3 k3 → Calls Try.prog 68 #[ptr b] w' fun e w'' => e = .returned (.agg #[.int .i64 x4, .int .i64 s4]) ∧ Rdr w'' b l4 k4 ∧ w'.grownBy w'' (some b)) := C4
  have D5 : Hid (∀ w', Rdr w' b l4 k4 → Calls Try.prog 70 #[ptr b] w' fun e w'' => e = .returned (.int .i64 z5) ∧ Rdr w'' b l5 k5 ∧ w'.grownBy w'' (some b)) := C5
  have DN : Hid (∀ w', Calls Try.prog 69 #[.int .i64 z5] w' fun e w'' => e = .returned (.int .i64 n5) ∧ w'' = w') := CN
  have D6 : Hid (∀ w', Rdr w' b l5 k5 → Calls Try.prog 71 #[ptr b, .int .i64 1100] w' fun e w'' => ∃ v, e = .returned v ∧ Rd w'' v x6 ∧ Rdr w'' b l6 k6 ∧ w'.grownBy w'' (some b)) := C6
  have D7 : Hid (∀ w', Rdr w' b l6 k6 → Calls Try.prog 67 #[ptr b] w' fun e w'' => e = .returned (.int .u64 (x7 : Int)) ∧ Rdr w'' b l7 k7 ∧ w'.grownBy w'' (some b)) := C7
  clear C1 C2 C3 C4 C5 C6 C7 CN L1 L2 L3 L4 L5 O1 O2 O3 O4 O5 h ho
  go_enter Try.func44, Try.ntmps44
  go_wp2_with (first
    | (go_at_call 66; first
        | (refine (D1.out _ (H.out.kept (World.grownBy_alloc w _ none))).mono ?_; rintro e w1 ⟨rfl, hr1, hg1⟩; clear D1)
        | (refine (D2.out _ hr1).mono ?_; rintro e w2 ⟨rfl, hr2, hg2⟩; clear D2))
    | (go_at_call 67; first
        | (refine (D3.out _ hr2).mono ?_; rintro e w3 ⟨rfl, hr3, hg3⟩; clear D3)
        | (refine (D7.out _ hr6).mono ?_; rintro e w7 ⟨rfl, hr7, hg7⟩
           have X := (blk_new w [.int .i64 0, .int .i64 0, .int .u64 0, .int .i64 0, .int .i64 0, .int .i64 0, .slice none 0 0, .int .u64 0] 28)
           have hG := grown_trans (grown_trans (grown_trans (grown_trans (grown_trans (grown_trans hg1 hg2 (fun k hk => .inl hk)) hg3 (fun k hk => .inl hk)) hg4 (fun k hk => .inl hk)) hg5 (fun k hk => .inl hk)) hg6 (fun k hk => .inl hk)) hg7 (fun k hk => .inl hk)
           have Y := X.block (hG.block _ X.lt (fun e => by have := Option.some.inj e; omega))
           have y0 := Y.cell 0 _ rfl
           have y1 := Y.cell 1 _ rfl
           have y2 := Y.cell 2 _ rfl
           have y3 := Y.cell 3 _ rfl
           have y4 := Y.cell 4 _ rfl
           have y5 := Y.cell 5 _ rfl
           have y6 := Y.cell 6 _ rfl
           have y7 := Y.cell 7 _ rfl
           have f0 := Y.frozen 0
           have f1 := Y.frozen 1
           have f2 := Y.frozen 2
           have f3 := Y.frozen 3
           have f4 := Y.frozen 4
           have f5 := Y.frozen 5
           have f6 := Y.frozen 6
           have f7 := Y.frozen 7))
    | (go_at_call 68; refine (D4.out _ hr3).mono ?_; rintro e w4 ⟨rfl, hr4, hg4⟩)
    | (go_at_call 70; refine (D5.out _ hr4).mono ?_; rintro e w5 ⟨rfl, hr5, hg5⟩)
    | (go_at_call 69; refine (DN.out _).mono ?_; rintro e w5' ⟨rfl, hw5⟩; replace hw5 := hw5.symm; subst hw5)
    | (go_at_call 71; refine (D6.out _ hr5).mono ?_; rintro e w6 ⟨v6, rfl, hrd6, hr6, hg6⟩; obtain ⟨a6, c6, hv6⟩ := hrd6.len; subst hv6))
  refine bodyPost_ret (v := ev ⟨x1, x2, x3, x4, s4, n5, x6, x7⟩ (.slice a6 x6.length c6)) ?_ rfl ⟨_, rfl, ?_, ?_, ?_⟩
  · rw [results_cell1 rfl]
    unfold ev
    go_simp
  · exact (hrd6.past hr6 hg7).pastB Y (by unfold NoByte; simp) (grown_set8 _ _ _ _ _ _ _ _ _ _)
  · exact hr7.pastB Y (by unfold NoByte; simp) (grown_set8 _ _ _ _ _ _ _ _ _ _) (by omega)
  · exact grown_trans (grown_none (World.grownBy_alloc w _ none) hG) (grown_set8 _ _ _ _ _ _ _ _ _ _) (fun k hk => .inr (by have := Option.some.inj hk; omega))
end Go.Proofs.Ytiebbglknmcnpaa
