/-
  The disk's Read; put, goDown and Write.
-/
import Derived.Test.YtkcighejmjgalaaDoorDsk1
namespace Go.Proofs.YtkcighejmjgalaaDoor
set_option linter.unusedVariables false
set_option linter.unusedSimpArgs false
set_option synthInstance.maxSize 20000
set_option maxHeartbeats 2000000
set_option maxRecDepth 20000
open Go.RowKit Go.Maps

/-- What Read hands out. -/
def ReadOut (w w' : World) (v : Value) (k : Int) (s : Sec) : Prop := if k = 0 then v = .slice (some ⟨w.heap.size, 0, none⟩) 64 64 ∧ Blk w' w.heap.size 76 (kc s) else v = .slice none 0 0
theorem readOut_bad {w w' : World} {k : Int} {s : Sec} (h : k ≠ 0) : ReadOut w w' (.slice none 0 0) k s := by
  unfold ReadOut
  rw [if_neg h]
theorem rd_sec {w : World} {g : Nat} {s : Sec} (h : Blk w g 76 (kc s)) : Rd w (.slice (some ⟨g, 0, none⟩) 64 64) s.d := by
  refine ⟨s.oct, some ⟨g, 0, none⟩, 64, by rw [s.len], by rw [s.len]; exact Nat.le_refl _, by unfold maxLen; omega, (fun h => by cases h), fun _ => ⟨g, 0, rfl, fun j hj => ?_⟩⟩
  rw [s.len] at hj
  exact h.cell _ _ (by rw [Nat.zero_add]; exact kc_byte s j hj)
theorem ReadOut.rd {w w' : World} {v : Value} {D : Dk} {i : Int} (h : ReadOut w w' v (D.readK i) (D.readS i)) : Rd w' v (D.readB i) := by
  unfold ReadOut at h
  unfold Dk.readB
  split at h
  · rename_i h0
    rw [if_pos h0, h.1]
    exact rd_sec h.2
  · rename_i h0
    rw [if_neg h0, h]
    exact rd_nil _

section
variable {w : World} {o : Nat → Nat} {j b : Nat} {gv nv pv : Value} {D : Dk}
theorem read_nil (w : World) (i : Int) : Calls Tryd.prog 32 #[.pointer none, .int .i64 i] w fun r w' => r = .returned (.tuple #[.slice none 0 0, .int .i64 23]) ∧ w' = w := by
  have HR : Hid (Calls Tryd.prog 60 #[.pointer none, .int .i64 i] w fun r w' => r = .returned (.int .i64 23) ∧ w' = w) := reach_nil w i
  go_enter Tryd.func32, Tryd.ntmps32
  go_wp2_with (go_at_call 60; go_must (refine HR.out.mono ?_; rintro r w2 ⟨rfl, hw2⟩; replace hw2 := hw2.symm; subst hw2))
  refine bodyPost_ret (results_tmp2 rfl _ _ _) rfl ⟨rfl, rfl⟩
theorem read_any (h : DAt w o j b gv nv pv D) (i : Int) : Calls Tryd.prog 32 #[ptr b, .int .i64 i] w fun r w' => ∃ v, r = .returned (.tuple #[v, .int .i64 (D.readK i)]) ∧ ReadOut w w' v (D.readK i) (D.readS i) ∧ Below w.heap.size w w' := by
  have HR : Hid (Calls Tryd.prog 60 #[ptr b, .int .i64 i] w fun r w' => r = .returned (.int .i64 (D.reach i)) ∧ w' = w) := reach_any h i
  by_cases h0 : D.reach i = 0
  · obtain ⟨hd, hi0, hi1⟩ := reach_zero h0
    obtain ⟨n, rfl⟩ := Int.eq_ofNat_of_zero_le hi0
    have hn : n < D.now.length := by omega
    obtain ⟨g, cap, hvv, hc1, hc2, hgw⟩ := own_of_slice h.n (by omega)
    subst hvv
    have hget : D.now[n]? = some (D.readS (n : Int)) := by
      unfold Dk.readS
      rw [Int.toNat_natCast, List.getD_eq_getElem?_getD, List.getElem?_eq_getElem hn]
      rfl
    have hK : D.readK (n : Int) = if (D.readS (n : Int)).t then 5 else 0 := by unfold Dk.readK; simp [h0]
    rw [h0] at HR
    rw [hK]
    have HRng : Hid (w.rangeAt g (n * 65) (kc (D.readS (n : Int)))) := row_range kc_len h.n hget
    have c1 := h.c1
    generalize D.readS (n : Int) = s at *
    generalize D.now.length = N at *
    clear hget hK h0 hi0 hd h
    obtain ⟨w1, hw1⟩ : ∃ w1, w1 = w.alloc (.cells (kc zs).toArray 76) := ⟨_, rfl⟩
    have B1 : Blk w1 w.heap.size 76 (kc zs) := by rw [hw1]; exact blk_new w _ 76
    obtain ⟨w2, hw2⟩ : ∃ w2, w2 = w1.setCells w.heap.size 0 (kc s) := ⟨_, rfl⟩
    have B2 : Blk w2 w.heap.size 76 (kc s) := by
      have := B1.setCells 0 (kc s) (by rw [kc_len, kc_len]; omega)
      rw [splice_all _ _ (by rw [kc_len, kc_len]), ← hw2] at this
      exact this
    have HT : Hid (w1.there w.heap.size 0 65) := B1.there 0 65 (by rw [kc_len]; omega)
    have hb2 : Below w.heap.size w w2 := by
      rw [hw2]
      exact bgrown (by rw [hw1]; exact balloc (Below.refl _ _) _) (Nat.le_refl _) (grown_setCells _ _ _ _)
    have ct := B2.cell 64 _ (kc_torn s)
    have HB2 : Hid (Below w.heap.size w w2) := hb2
    have HK2 : Hid (Blk w2 w.heap.size 76 (kc s)) := B2
    have HW1 : Hid (w1 = w.alloc (.cells (kc zs).toArray 76)) := hw1
    have HW2 : Hid (w2 = w1.setCells w.heap.size 0 (kc s)) := hw2
    clear hw1 hw2 B1 B2 hb2
    unfold ReadOut
    generalize hst : s.t = t at *
    clear hst
    cases t
    · go_enter Tryd.func32, Tryd.ntmps32
      go_wp2_with (first
        | (go_at_call 60; go_must (refine HR.out.mono ?_; rintro r w2' ⟨rfl, hw2'⟩; replace hw2' := hw2'.symm; subst hw2'))
        | (refine wpList_ok rfl (exec_load62 (s := s) (.tmp 19) rfl rfl HRng.out) ?_)
        | (refine wpList_ok rfl (exec_alloc62 rfl) ?_; rw [← HW1.out])
        | (refine wpList_skip rfl (exec_store62 (s := s) (.tmp 7) (.tmp 20) rfl rfl rfl HT.out) ?_; rw [← HW2.out]))
      refine bodyPost_ret (results_tmp2 rfl _ _ _) rfl ⟨_, rfl, ⟨rfl, HK2.out⟩, HB2.out⟩
    · go_enter Tryd.func32, Tryd.ntmps32
      go_wp2_with (first
        | (go_at_call 60; go_must (refine HR.out.mono ?_; rintro r w2' ⟨rfl, hw2'⟩; replace hw2' := hw2'.symm; subst hw2'))
        | (refine wpList_ok rfl (exec_load62 (s := s) (.tmp 19) rfl rfl HRng.out) ?_)
        | (refine wpList_ok rfl (exec_alloc62 rfl) ?_; rw [← HW1.out])
        | (refine wpList_skip rfl (exec_store62 (s := s) (.tmp 7) (.tmp 20) rfl rfl rfl HT.out) ?_; rw [← HW2.out]))
      refine bodyPost_ret (results_tmp2 rfl _ _ _) rfl ⟨_, rfl, rfl, HB2.out⟩
  · have hK : D.readK i = D.reach i := by unfold Dk.readK; simp [h0]
    rw [hK]
    generalize D.reach i = k at *
    have hkn : (k != 0) = true := by simpa using h0
    have HK : Hid (k ≠ 0) := h0
    clear h0 hK h
    go_enter Tryd.func32, Tryd.ntmps32
    go_wp2_with (go_at_call 60; go_must (refine HR.out.mono ?_; rintro r w2 ⟨rfl, hw2⟩; replace hw2 := hw2.symm; subst hw2))
    refine bodyPost_ret (results_tmp2 rfl _ _ _) rfl ⟨_, rfl, readOut_bad HK.out, Below.refl _ _⟩
end
end Go.Proofs.YtkcighejmjgalaaDoor
