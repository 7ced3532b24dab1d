/-
  The heap's line of entries: where an entry stands; Less, Swap.
-/
import Derived.Test.YtigfklcclfpcjaaRowsE
import Derived.Test.YtigfklcclfpcjaaMeths
import Derived.Test.YtigfklcclfpcjaaHeapM
import Derived.Test.YtigfklcclfpcjaaPutsS
import Derived.BigQuiet
namespace Go.Proofs.Ytigfklcclfpcjaa
set_option linter.unusedVariables false
set_option linter.unusedSimpArgs false
set_option synthInstance.maxSize 20000
set_option maxHeartbeats 2000000
set_option maxRecDepth 20000
open Go.RowKit Go.Maps

/-- e stands ahead of f. -/
def keyB (e f : Ent) : Bool := decide (ltP (e.w, e.i) (f.w, f.i))

theorem placeOf_any (w : World) (e : Ent) (x : Value) (hx : Rd w x e.b) : Calls Try.prog 43 #[ev e x] w fun r w' => r = .returned (.agg #[.int .i64 e.w, .int .i64 e.i]) ∧ Below w.heap.size w w' := by
  obtain ⟨a, cap, rfl⟩ := hx.len
  obtain ⟨ew, ei, ep, et, eu, en, eb, eg⟩ := e
  unfold ev
  dsimp only at *
  clear hx
  generalize eb.length = nl
  go_enter Try.func43, Try.ntmps43
  go_wp2
  refine bodyPost_ret (v := .agg #[.int .i64 ew, .int .i64 ei]) ?_ rfl ⟨rfl, ?_⟩
  · rw [results_cell1 rfl]
    go_simp
  · exact balloc (balloc (Below.refl _ _) _) _

theorem ahead_any (a b c d : Int) (w : World) : Calls Try.prog 76 #[.agg #[.int .i64 a, .int .i64 b], .agg #[.int .i64 c, .int .i64 d]] w fun r w' => r = .returned (.bool (decide (ltP (a, b) (c, d)))) ∧ Below w.heap.size w w' := by
  have HR : Hid (decide (ltP (a, b) (c, d)) = true ↔ (a < c ∨ a = c ∧ b < d)) := (decide_eq_true_iff : _ ↔ _)
  generalize decide (ltP (a, b) (c, d)) = p at HR ⊢
  by_cases h : a = c
  · subst h
    go_enter Try.func76, Try.ntmps76
    go_wp2
    all_goals
      go_ret
      refine ⟨ret_bool ?_, balloc (balloc (Below.refl _ _) _) _⟩
      rw [HR.out]
      (try simp only [decide_eq_true_eq])
      first
        | omega
        | (simp; done)
        | (trace_state; fail)
  · have h' : (a != c) = true := by simpa using h
    have HH : Hid (¬ a = c) := h
    clear h
    go_enter Try.func76, Try.ntmps76
    go_wp2
    all_goals
      go_ret
      refine ⟨ret_bool ?_, balloc (balloc (Below.refl _ _) _) _⟩
      rw [HR.out]
      have := HH.out
      (try simp only [decide_eq_true_eq])
      omega

theorem less_any {w : World} {v : Value} {ps : List (Ent × Value)} (hv : RowE w v ps) {i j : Nat} {p q : Ent × Value} (hp : ps[i]? = some p) (hq : ps[j]? = some q) (hP : Rd w p.2 p.1.b) (hQ : Rd w q.2 q.1.b) :
    Calls Try.prog 74 #[v, .int .i64 (i : Int), .int .i64 (j : Int)] w fun r w' => r = .returned (.bool (keyB p.1 q.1)) ∧ Below w.heap.size w w' := by
  obtain ⟨a, cap, rfl⟩ := hv.len
  have hcap := hv.cap
  have hi : i < ps.length := (List.getElem?_eq_some_iff.1 hp).1
  have hj : j < ps.length := (List.getElem?_eq_some_iff.1 hq).1
  obtain ⟨g, off, ea, hc⟩ := hv.at hp
  subst ea
  obtain ⟨g', off', ea, hc'⟩ := hv.at hq
  cases ea
  have P1 := fun w' (h : Rd w' p.2 p.1.b) => placeOf_any w' p.1 p.2 h
  have P2 := fun w' (h : Rd w' q.2 q.1.b) => placeOf_any w' q.1 q.2 h
  have P3 := fun w' => ahead_any p.1.w p.1.i q.1.w q.1.i w'
  have HP : Hid (Rd w p.2 p.1.b) := hP
  have HQ : Hid (Rd w q.2 q.1.b) := hQ
  unfold keyB
  generalize decide (ltP (p.1.w, p.1.i) (q.1.w, q.1.i)) = kb at *
  obtain ⟨e, x⟩ := p
  obtain ⟨f, y⟩ := q
  dsimp only at *
  obtain ⟨ax, cx, hxx⟩ := HP.out.len
  subst hxx
  obtain ⟨ay, cy, hyy⟩ := HQ.out.len
  subst hyy
  obtain ⟨ew, ei, ep, et, eu, en, eb, eg⟩ := e
  obtain ⟨fw, fi, fp, ft, fu, fn, fb, fg⟩ := f
  unfold ec at hc hc'
  unfold ev at P1 P2
  dsimp only at *
  have HP1 : Hid (∀ w', Rd w' (.slice ax eb.length cx) eb → Calls Try.prog 43 #[.agg #[.int .i64 ew, .int .i64 ei, .int .u64 ep, .int .i64 et, .int .i64 eu, .int .i64 en, .slice ax eb.length cx, .int .u64 eg]] w' fun r w'' => r = .returned (.agg #[.int .i64 ew, .int .i64 ei]) ∧ Below w'.heap.size w' w'') := P1
  have HP2 : Hid (∀ w', Rd w' (.slice ay fb.length cy) fb → Calls Try.prog 43 #[.agg #[.int .i64 fw, .int .i64 fi, .int .u64 fp, .int .i64 ft, .int .i64 fu, .int .i64 fn, .slice ay fb.length cy, .int .u64 fg]] w' fun r w'' => r = .returned (.agg #[.int .i64 fw, .int .i64 fi]) ∧ Below w'.heap.size w' w'') := P2
  have HP3 : Hid (∀ w', Calls Try.prog 76 #[.agg #[.int .i64 ew, .int .i64 ei], .agg #[.int .i64 fw, .int .i64 fi]] w' fun r w'' => r = .returned (.bool kb) ∧ Below w'.heap.size w' w'') := P3
  have HC : Hid (∀ w', Below w.heap.size w w' → ∀ k u, [.int .i64 ew, .int .i64 ei, .int .u64 ep, .int .i64 et, .int .i64 eu, .int .i64 en, .slice ax eb.length cx, .int .u64 eg][k]? = some u → w'.cell? ⟨g, off + i * 8 + k, none⟩ = some u) := fun w' hb' k u hu => by
    have h1 := hc k u hu
    rw [World.cell?_of_block (hb'.block g (World.block_lt_of_cell? w _ h1))]
    exact h1
  have HC' : Hid (∀ w', Below w.heap.size w w' → ∀ k u, [.int .i64 fw, .int .i64 fi, .int .u64 fp, .int .i64 ft, .int .i64 fu, .int .i64 fn, .slice ay fb.length cy, .int .u64 fg][k]? = some u → w'.cell? ⟨g, off + j * 8 + k, none⟩ = some u) := fun w' hb' k u hu => by
    have h1 := hc' k u hu
    rw [World.cell?_of_block (hb'.block g (World.block_lt_of_cell? w _ h1))]
    exact h1
  clear hc hc' P1 P2 P3 hp hq hP hQ hv
  go_enter Try.func74, Try.ntmps74
  go_upto_region 1 with fail
  have c0 := fun z : WIn (fun w' => Below w.heap.size w w') => HC.out z.w z.ok 0 _ rfl
  have c1 := fun z : WIn (fun w' => Below w.heap.size w w') => HC.out z.w z.ok 1 _ rfl
  have c2 := fun z : WIn (fun w' => Below w.heap.size w w') => HC.out z.w z.ok 2 _ rfl
  have c3 := fun z : WIn (fun w' => Below w.heap.size w w') => HC.out z.w z.ok 3 _ rfl
  have c4 := fun z : WIn (fun w' => Below w.heap.size w w') => HC.out z.w z.ok 4 _ rfl
  have c5 := fun z : WIn (fun w' => Below w.heap.size w w') => HC.out z.w z.ok 5 _ rfl
  have c6 := fun z : WIn (fun w' => Below w.heap.size w w') => HC.out z.w z.ok 6 _ rfl
  have c7 := fun z : WIn (fun w' => Below w.heap.size w w') => HC.out z.w z.ok 7 _ rfl
  have d0 := fun z : WIn (fun w' => Below w.heap.size w w') => HC'.out z.w z.ok 0 _ rfl
  have d1 := fun z : WIn (fun w' => Below w.heap.size w w') => HC'.out z.w z.ok 1 _ rfl
  have d2 := fun z : WIn (fun w' => Below w.heap.size w w') => HC'.out z.w z.ok 2 _ rfl
  have d3 := fun z : WIn (fun w' => Below w.heap.size w w') => HC'.out z.w z.ok 3 _ rfl
  have d4 := fun z : WIn (fun w' => Below w.heap.size w w') => HC'.out z.w z.ok 4 _ rfl
  have d5 := fun z : WIn (fun w' => Below w.heap.size w w') => HC'.out z.w z.ok 5 _ rfl
  have d6 := fun z : WIn (fun w' => Below w.heap.size w w') => HC'.out z.w z.ok 6 _ rfl
  have d7 := fun z : WIn (fun w' => Below w.heap.size w w') => HC'.out z.w z.ok 7 _ rfl
  simp only [Nat.add_zero] at c0 d0
  have ne : Nonempty (WIn (fun w' => Below w.heap.size w w')) := ⟨⟨w, Below.refl _ _⟩⟩
  refine wp_region_ord (C := fun w' => ∃ z : WIn (fun w' => Below w.heap.size w w'), w' = z.w) [(false, 0), (false, 1), (false, 2), (false, 3), (false, 5), (false, 6), (false, 7), (false, 8), (true, 4), (true, 9), (true, 10), (false, 11)] (by kernel_rfl) (by kernel_rfl) ⟨⟨w.drew, (Below.refl _ _).drew⟩, rfl⟩ ?_
  iterate 8 (refine ord_still rfl rfl ?_; go_big_quiet_step (fail); refine wpQuiet_nil ?_)
  refine ord_mem rfl rfl ?_
  go_simp
  refine (HP1.out w.drew HP.out.drew).mono ?_
  rintro r w2 ⟨rfl, hb2⟩
  have HB2 : Hid (Below w.heap.size w w2) := below_undrew hb2
  clear hb2
  refine ⟨⟨⟨w2, HB2.out⟩, rfl⟩, ?_⟩
  refine ord_mem rfl rfl ?_
  go_simp
  refine (HP2.out w2 (HQ.out.below HB2.out)).mono ?_
  rintro r w3 ⟨rfl, hb3⟩
  have HB3 : Hid (Below w.heap.size w w3) := bnext HB2.out hb3
  clear hb3
  refine ⟨⟨⟨w3, HB3.out⟩, rfl⟩, ?_⟩
  refine ord_mem rfl rfl ?_
  go_simp
  refine (HP3.out w3).mono ?_
  rintro r w4 ⟨rfl, hb4⟩
  have HB4 : Hid (Below w.heap.size w w4) := bnext HB3.out hb4
  clear hb4
  refine ⟨⟨⟨w4, HB4.out⟩, rfl⟩, ?_⟩
  refine ord_still rfl rfl ?_
  go_big_quiet_step (fail)
  refine wpQuiet_nil ?_
  refine ord_end ?_
  clear c0 c1 c2 c3 c4 c5 c6 c7 d0 d1 d2 d3 d4 d5 d6 d7 ne
  go_wp2
  go_ret
  exact ⟨rfl, HB4.out⟩

/-- What stands at a place, told with its body. -/
theorem getD_of {ps : List (Ent × Value)} {i : Nat} {p : Ent × Value} (h : ps[i]? = some p) : ps.getD i zq = p := by rw [List.getD_eq_getElem?_getD, h]; rfl

/-- An entry put into eight cells. -/
def put8 (w : World) (g n : Nat) (e : Ent) (y : Value) : World := (((((((w.setCell ⟨g, n, none⟩ (.int .i64 e.w)).setCell ⟨g, n + 1, none⟩ (.int .i64 e.i)).setCell ⟨g, n + 2, none⟩ (.int .u64 e.p)).setCell ⟨g, n + 3, none⟩ (.int .i64 e.t)).setCell ⟨g, n + 4, none⟩ (.int .i64 e.u)).setCell ⟨g, n + 5, none⟩ (.int .i64 e.n)).setCell ⟨g, n + 6, none⟩ y).setCell ⟨g, n + 7, none⟩ (.int .u64 e.g)
theorem row_put8 {w : World} {g cap n : Nat} {ps : List (Ent × Value)} (h : w.ownsRow 0 38 8 (.slice (some ⟨g, 0, none⟩) n cap) n (flatE ps)) (hn : n = ps.length) {i : Nat} (hi : i < ps.length) (e : Ent) (y : Value) :
    (put8 w g (i * 8) e y).ownsRow 0 38 8 (.slice (some ⟨g, 0, none⟩) n cap) n (flatE (ps.set i (e, y))) ∧ w.grownBy (put8 w g (i * 8) e y) (some g) := by
  subst hn
  have := row_set8 h hi e y
  dsimp only at this
  rw [List.length_set] at this
  exact this
theorem grown_undrew {w w' : World} {r : Option Nat} (h : w.drew.grownBy w' r) : w.grownBy w' r := ⟨h.os, h.tape, h.output, h.size, h.block⟩

theorem swap_any {w : World} {v : Value} {ps : List (Ent × Value)} (hrow : w.ownsRow 0 38 8 v ps.length (flatE ps)) (hS : ∀ q ∈ ps, ∃ a n c, q.2 = .slice a n c) {i j : Nat} (hi : i < ps.length) (hj : j < ps.length) :
    Calls Try.prog 75 #[v, .int .i64 (i : Int), .int .i64 (j : Int)] w fun r w' => r = .returned (.tuple #[]) ∧ w'.ownsRow 0 38 8 v ps.length (flatE (swapL zq ps i j)) ∧ w.grownBy w' v.ownBlock := by
  obtain ⟨p, hp⟩ : ∃ p, ps[i]? = some p := ⟨_, List.getElem?_eq_getElem hi⟩
  obtain ⟨q, hq⟩ : ∃ q, ps[j]? = some q := ⟨_, List.getElem?_eq_getElem hj⟩
  have HE : swapL zq ps i j = (ps.set i q).set j p := by unfold swapL; rw [getD_of hp, getD_of hq]
  rw [HE]
  obtain ⟨g, cap, rfl, hcm⟩ : ∃ g cap, v = .slice (some ⟨g, 0, none⟩) ps.length cap ∧ cap ≤ 9223372036854775807 ∧ ps.length ≤ cap := by
    rcases hrow.2 with ⟨rfl, h0⟩ | ⟨g, cap, cur, rfl, h3, h4, h5, h6, _⟩
    · omega
    · exact ⟨g, cap, rfl, h6, h5⟩
  obtain ⟨e, x⟩ := p
  obtain ⟨f, y⟩ := q
  obtain ⟨ax, nx, cx, hxx⟩ := hS _ (List.mem_of_getElem? hp)
  obtain ⟨ay, ny, cy, hyy⟩ := hS _ (List.mem_of_getElem? hq)
  dsimp only at hxx hyy
  subst hxx hyy
  clear hS
  have R0 : w.drew.ownsRow 0 38 8 (.slice (some ⟨g, 0, none⟩) ps.length cap) ps.length (flatE ps) := hrow
  have hjq : (ps.set i (f, (.slice ay ny cy : Value)))[j]? = some (f, (.slice ay ny cy : Value)) := by
    rw [List.getElem?_set]
    by_cases c : i = j
    · rw [if_pos c, if_pos hi]
    · rw [if_neg c]; exact hq
  have HU : ∀ w', w.drew.grownBy w' (some g) → Hid (w.grownBy w' (some g)) := fun w' h => (show World.grownBy _ _ _ from grown_undrew h)
  go_enter Try.func75, Try.ntmps75
  have ne : Nonempty (WIn (fun _ => True)) := ⟨⟨w, trivial⟩⟩
  refine wp_region_tree (C := fun w' => ∃ z : WIn (fun _ => True), w' = z.w)
    (.still 0 (.still 1 (.still 2 (.still 3 (.still 4 (.still 5 (.still 6 (.still 8 (.still 9 (.still 10 (.two 7 (.one 11 (.still 12 (.one 13 (.still 14 (.one 15 .done))))) 11 (.one 7 (.still 12 (.one 13 (.still 14 (.one 15 .done))))))))))))))))
    (by kernel_rfl) (by kernel_rfl) ⟨⟨w.drew, trivial⟩, rfl⟩ ?_
  generalize w.drew = wd at *
  obtain ⟨w5, hw5⟩ : ∃ w5, w5 = put8 wd g (i * 8) f (.slice ay ny cy) := ⟨_, rfl⟩
  have W1 := row_put8 R0 rfl hi f (.slice ay ny cy)
  rw [← hw5] at W1
  obtain ⟨w6, hw6⟩ : ∃ w6, w6 = put8 w5 g (j * 8) e (.slice ax nx cx) := ⟨_, rfl⟩
  have W2 := row_put8 W1.1 (by rw [List.length_set]) (i := j) (by rw [List.length_set]; exact hj) e (.slice ax nx cx)
  rw [← hw6] at W2
  have HEnd : Hid (w6.ownsRow 0 38 8 (.slice (some ⟨g, 0, none⟩) ps.length cap) ps.length (flatE ((ps.set i (f, (.slice ay ny cy : Value))).set j (e, (.slice ax nx cx : Value)))) ∧ w.grownBy w6 (some g)) := ⟨W2.1, (HU _ (grown_trans W1.2 W2.2 (fun k hk => .inl hk))).out⟩
  have HC : ∀ k u, (ec e (.slice ax nx cx))[k]? = some u → wd.cell? ⟨g, i * 8 + k, none⟩ = some u := fun k u hu => row_cell R0 hp rfl k u hu
  have HC' : ∀ k u, (ec f (.slice ay ny cy))[k]? = some u → wd.cell? ⟨g, j * 8 + k, none⟩ = some u := fun k u hu => row_cell R0 hq rfl k u hu
  have HC5 : ∀ k u, (ec f (.slice ay ny cy))[k]? = some u → w5.cell? ⟨g, j * 8 + k, none⟩ = some u := fun k u hu => row_cell W1.1 hjq (by rw [List.length_set]) k u hu
  obtain ⟨ew, ei, ep, et, eu, en, eb, eg⟩ := e
  obtain ⟨fw, fi, fp, ft, fu, fn, fb, fg⟩ := f
  unfold ec at HC HC' HC5
  unfold put8 at hw5 hw6
  dsimp only at *
  have c0 := HC 0 _ rfl
  have c1 := HC 1 _ rfl
  have c2 := HC 2 _ rfl
  have c3 := HC 3 _ rfl
  have c4 := HC 4 _ rfl
  have c5 := HC 5 _ rfl
  have c6 := HC 6 _ rfl
  have c7 := HC 7 _ rfl
  have d0 := HC' 0 _ rfl
  have d1 := HC' 1 _ rfl
  have d2 := HC' 2 _ rfl
  have d3 := HC' 3 _ rfl
  have d4 := HC' 4 _ rfl
  have d5 := HC' 5 _ rfl
  have d6 := HC' 6 _ rfl
  have d7 := HC' 7 _ rfl
  have b0 := HC5 0 _ rfl
  have b1 := HC5 1 _ rfl
  have b2 := HC5 2 _ rfl
  have b3 := HC5 3 _ rfl
  have b4 := HC5 4 _ rfl
  have b5 := HC5 5 _ rfl
  have b6 := HC5 6 _ rfl
  have b7 := HC5 7 _ rfl
  simp only [Nat.add_zero] at c0 d0 b0
  have f0 := R0.frozenAt (i * 8)
  have f1 := R0.frozenAt (i * 8 + 1)
  have f2 := R0.frozenAt (i * 8 + 2)
  have f3 := R0.frozenAt (i * 8 + 3)
  have f4 := R0.frozenAt (i * 8 + 4)
  have f5 := R0.frozenAt (i * 8 + 5)
  have f6 := R0.frozenAt (i * 8 + 6)
  have f7 := R0.frozenAt (i * 8 + 7)
  have k0 := W1.1.frozenAt (j * 8)
  have k1 := W1.1.frozenAt (j * 8 + 1)
  have k2 := W1.1.frozenAt (j * 8 + 2)
  have k3 := W1.1.frozenAt (j * 8 + 3)
  have k4 := W1.1.frozenAt (j * 8 + 4)
  have k5 := W1.1.frozenAt (j * 8 + 5)
  have k6 := W1.1.frozenAt (j * 8 + 6)
  have k7 := W1.1.frozenAt (j * 8 + 7)
  clear hrow R0 W1 W2 hp hq hjq HC HC' HC5 HU HE
  have HW5 : Hid (_ = _) := hw5
  have HW6 : Hid (_ = _) := hw6
  clear hw5 hw6
  iterate 10 (refine tree_still rfl rfl ?_; go_big_quiet_step (fail); refine wpQuiet_nil ?_)
  refine tree_two rfl rfl rfl rfl ?wayA ?wayB
  case' wayA =>
    go_simp
    refine ⟨⟨⟨_, trivial⟩, rfl⟩, ?_⟩
    refine tree_one rfl rfl ?_
    go_simp
    refine ⟨⟨⟨_, trivial⟩, rfl⟩, ?_⟩
  case' wayB =>
    go_simp
    refine ⟨⟨⟨_, trivial⟩, rfl⟩, ?_⟩
    refine tree_one rfl rfl ?_
    go_simp
    refine ⟨⟨⟨_, trivial⟩, rfl⟩, ?_⟩
  all_goals
    refine tree_still rfl rfl ?_
    go_big_quiet_step (fail)
    refine wpQuiet_nil ?_
    refine tree_one rfl rfl ?_
    go_simp
    rw [← HW5.out]
    clear c0 c1 c2 c3 c4 c5 c6 c7 d0 d1 d2 d3 d4 d5 d6 d7 f0 f1 f2 f3 f4 f5 f6 f7 HW5
    refine ⟨⟨⟨_, trivial⟩, rfl⟩, ?_⟩
    refine tree_still rfl rfl ?_
    go_big_quiet_step (fail)
    refine wpQuiet_nil ?_
    refine tree_one rfl rfl ?_
    go_simp
    rw [← HW6.out]
    refine ⟨⟨⟨_, trivial⟩, rfl⟩, ?_⟩
    refine tree_done ?_
    clear ne HW6
    go_wp2
    refine bodyPost_end (results_none rfl _ _ _) rfl ⟨rfl, HEnd.out⟩
end Go.Proofs.Ytigfklcclfpcjaa
