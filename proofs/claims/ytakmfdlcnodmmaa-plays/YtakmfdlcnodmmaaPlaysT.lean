/-
  Whatever a script calls, both oracles answer alike, and have handed out as many: the law's own walk.
-/
import Derived.Test.YtakmfdlcnodmmaaPlays
namespace Go.Proofs.Ytakmfdlcnodmmaa
set_option linter.unusedVariables false
open Go.RowKit Go.Maps

theorem short0 (ds : List Int) : Short ⟨ds, []⟩ := fun _ _ _ _ h => by simp at h

theorem RdOps.at {W : World} {v : Value} {n : Nat} {O : Nat → OpRow} (h : RdOps W v n O) {a : Option Addr} {cap : Nat} (hv : v = .slice a n cap) {i : Nat} (hi : i < n) :
    ∃ b off k x y a1 c1 a2 c2 la lb, a = some ⟨b, off, none⟩ ∧ U64 x ∧ U64 y ∧ Rd W (.slice a1 (List.length la) c1) la ∧ Rd W (.slice a2 (List.length lb) c2) lb ∧ la = (O i).la ∧ lb = (O i).lb ∧
      ∀ w, Below W.heap.size W w → w.cell? ⟨b, off + i * 5, none⟩ = some (.int .i64 k) ∧ w.cell? ⟨b, off + i * 5 + 1, none⟩ = some (.int .u64 x) ∧ w.cell? ⟨b, off + i * 5 + 2, none⟩ = some (.int .u64 y) ∧ w.cell? ⟨b, off + i * 5 + 3, none⟩ = some (.slice a1 (List.length la) c1) ∧ w.cell? ⟨b, off + i * 5 + 4, none⟩ = some (.slice a2 (List.length lb) c2) := by
  obtain ⟨a', cap', rfl, h1, h2, h3⟩ := h
  cases hv
  obtain ⟨b, off, rfl, hc⟩ := h3 (by omega)
  obtain ⟨hcell, hx, hy, ra, rb⟩ := hc i hi
  obtain ⟨a1, c1, ea⟩ := ra.len
  obtain ⟨a2, c2, eb⟩ := rb.len
  refine ⟨b, off, (O i).k, (O i).x, (O i).y, a1, c1, a2, c2, (O i).la, (O i).lb, rfl, hx, hy, ea ▸ ra, eb ▸ rb, rfl, rfl, fun w hb => ?_⟩
  have g := fun j u (hu : (O i).cells[j]? = some u) => (below_grown hb).cell (hcell j u hu) (fun e => by cases e)
  refine ⟨g 0 _ rfl, g 1 _ rfl, g 2 _ rfl, ?_, ?_⟩
  · rw [← ea]; exact g 3 _ rfl
  · rw [← eb]; exact g 4 _ rfl

set_option maxHeartbeats 4000000 in
set_option maxRecDepth 20000 in
theorem plays_walk (W : World) (dv v : Value) (ds : List Int) (n : Nat) (O : Nat → OpRow) (hd : RdU W dv ds) (hv : RdOps W v n O) :
    Calls Try.prog 3 #[dv, v] W fun e w' => e = .returned (.bool true) ∧ Below W.heap.size W w' := by
  have HD : Hid (RdU W dv ds) := hd
  have HO : Hid (RdOps W v n O) := hv
  obtain ⟨_, ad, cd, rfl, hd1, hd2, _⟩ := hd
  obtain ⟨a, cap, rfl, h1, h2, _⟩ := hv
  unfold maxLen at hd2 h2
  go_enter Try.func3, Try.ntmps3
  go_wp2_with fail
  refine (light_any W _ _ ds n O HD.out HO.out).mono ?_
  rintro e w0 ⟨⟨rfl, hL⟩ | rfl, hw0⟩
  · replace hw0 := hw0.symm
    subst hw0
    have hl1 := hL.1
    have hl2 := hL.2.1
    have HL3 : Hid (∀ i, i < n → (O i).la.length ≤ 300 ∧ (O i).lb.length ≤ 1500) := hL.2.2
    clear hL
    go_upto_region 4 with (go_at_call 11; go_must (refine (new_at W W (Below.refl _ W) _ ds HD.out (by omega)).mono ?_; rintro e w1 ⟨b, rfl, ft, hA, hn⟩; have HG0 : Hid (Game W _ (w1.heap.size + 1) b w1.heap.size ⟨ds, []⟩ ⟨ds, []⟩ [] [] [] []) := game0 hA HD.out; clear hA hn))
    obtain ⟨w2, hw2⟩ : ∃ w2, w2 = (w1.alloc (.cells #[.slice ad ds.length cd, .slice none 0 0] 32)).alloc (.cells #[ptr b, ptr w1.heap.size, .slice none 0 0, .slice none 0 0] 35) := ⟨_, rfl⟩
    rw [← hw2] at HG0 ⊢
    generalize w1.heap.size + 1 = pb at HG0 ⊢
    generalize w1.heap.size = r at HG0 ⊢
    clear hw2
    obtain ⟨p0, p1⟩ := HG0.out.cells
    go_wp2_with (go_at_call 10; go_must (refine (alive_any _).mono ?_; rintro e w3 ⟨rfl, hb3⟩; have HG3 : Hid (Game W w3 pb b r ⟨ds, []⟩ ⟨ds, []⟩ [] [] [] []) := HG0.out.below hb3; clear hb3))
    go_loopw [6] (fun i wr => ∃ (m : Nat) (S : St) (hs : List Int) (ts : List (Value × List Int)), i = .int .i64 m ∧ m ≤ n ∧ Hid (Game W wr pb b r S S hs ts [] []) ∧ Hid (Fine S ∧ Short S) ∧ S.rows.length ≤ 2 * m ∧ hs.length ≤ 2 * m ∧ ts.length ≤ m) (fun i _ => n - (intOf i).toNat)
    case atStart => exact ⟨0, ⟨ds, []⟩, [], [], rfl, by omega, HG3, ⟨fine0 ds, short0 ds⟩, by simp, by simp, by simp⟩
    case round =>
      obtain ⟨m, S, hs, ts, rfl, hm, HG, HFS, b1, b2, b3⟩ := hrel
      clear HG0 HG3 p0 p1
      by_cases hlt : m < n
      · obtain ⟨ob, off, k, x, y, a1, c1, a2, c2, la, lb, rfl, hx, hy, ra, rb, ela, elb, hcells⟩ := HO.out.at rfl hlt
        have HRA : Hid (Rd W (.slice a1 la.length c1) la ∧ Rd W (.slice a2 lb.length c2) lb ∧ U64 x ∧ U64 y) := ⟨ra, rb, hx, hy⟩
        have hll := HL3.out m hlt
        rw [← ela, ← elb] at hll
        obtain ⟨hla, hlb⟩ := hll
        have HC : Hid (∀ w, Below W.heap.size W w → w.cell? ⟨ob, off + m * 5, none⟩ = some (.int .i64 k) ∧ w.cell? ⟨ob, off + m * 5 + 1, none⟩ = some (.int .u64 x) ∧ w.cell? ⟨ob, off + m * 5 + 2, none⟩ = some (.int .u64 y) ∧ w.cell? ⟨ob, off + m * 5 + 3, none⟩ = some (.slice a1 la.length c1) ∧ w.cell? ⟨ob, off + m * 5 + 4, none⟩ = some (.slice a2 lb.length c2)) := hcells
        have hmi : (m : Int) < (n : Int) := by omega
        clear hcells ra rb hx hy ela elb
        go_upto_region 9 with fail
        have q0 := fun z : WIn (fun w' => Below wr.heap.size wr w') => (HC.out z.w (bnext HG.out.bel z.ok)).1
        have q1 := fun z : WIn (fun w' => Below wr.heap.size wr w') => (HC.out z.w (bnext HG.out.bel z.ok)).2.1
        have q2 := fun z : WIn (fun w' => Below wr.heap.size wr w') => (HC.out z.w (bnext HG.out.bel z.ok)).2.2.1
        have q3 := fun z : WIn (fun w' => Below wr.heap.size wr w') => (HC.out z.w (bnext HG.out.bel z.ok)).2.2.2.1
        have q4 := fun z : WIn (fun w' => Below wr.heap.size wr w') => (HC.out z.w (bnext HG.out.bel z.ok)).2.2.2.2
        have ne2 : Nonempty (WIn (fun w' => Below wr.heap.size wr w')) := ⟨⟨wr, Below.refl _ _⟩⟩
        refine wp_region_three (C := fun w' => ∃ z : WIn (fun w' => Below wr.heap.size wr w'), w' = z.w) 5 (by kernel_rfl) (by kernel_rfl) rfl rfl ⟨⟨wr.drew, (Below.refl _ _).drew⟩, rfl⟩ ?_
        simp only [List.take_succ_cons, List.take_zero, List.drop_succ_cons, List.drop_zero]
        repeat (go_big_quiet_step (fail))
        refine wpQuiet_nil ?_
        rintro w4a ⟨⟨w4, ok4⟩, rfl⟩
        go_simp
        refine (do_any W _ pb b r S hs ts (HG.out.below ok4) HFS.out.1 HFS.out.2 (by omega) (by omega) (by omega) k x y HRA.out.2.2.1 HRA.out.2.2.2 _ _ la lb HRA.out.1 HRA.out.2.1 hla hlb).mono ?_
        rintro e w5 ⟨rfl, S', hs', ts', g5, f5, s5, l1, l2, l3⟩
        have HG5 : Hid (Game W w5 pb b r S' S' hs' ts' [] []) := g5
        have HF5 : Hid (Fine S' ∧ Short S') := ⟨f5, s5⟩
        obtain ⟨p0, p1⟩ := g5.cells
        obtain ⟨ra', rc', r1⟩ := g5.refrows
        clear g5 f5 s5 q0 q1 q2 q3 q4 ne2 ok4
        dsimp only
        go_simp
        repeat (go_big_quiet_step (fail))
        go_big_quiet_want
        go_big_quiet_op
        refine ⟨.int .i64 S'.rows.length, (gused HG5.out).mono (fun _ _ h => h), ?_⟩
        go_big_quiet_on
        repeat (go_big_quiet_step (fail))
        refine wpQuiet_nil ?_
        go_wp2
        go_roundw
        case rel => exact ⟨m + 1, S', hs', ts', by go_num, by omega, HG5, HF5, by omega, by omega, by omega⟩
        case measure => simp [intOf]; omega
      · go_wp2
        go_ret
        exact ⟨rfl, HG.out.bel⟩
  · replace hw0 := hw0.symm
    subst hw0
    go_wp2_with (go_at_call 10; go_must (refine (alive_any _).mono ?_; rintro e w12 ⟨rfl, hb12⟩))
    go_ret
    exact ⟨rfl, hb12⟩
end Go.Proofs.Ytakmfdlcnodmmaa
