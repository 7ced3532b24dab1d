/-
  A call of Unwrap, by both.
  A call of no kind.
-/
import Derived.Test.YtcacioogklgahaaDoBase
namespace Go.Proofs.Ytcacioogklgahaa
section
set_option linter.unusedVariables false
set_option synthInstance.maxSize 20000
open Classical
open Go.RowKit Go.Maps

set_option maxHeartbeats 4000000 in
set_option maxRecDepth 20000 in
theorem do_unwrap (W w : World) (pb b r : Nat) (S : St) (hs : List Int) (ts : List (Value × List Int)) (h : Game W w pb b r S S hs ts [] []) (hf : Fine S) (hsh : Short S) (hN : S.rows.length + 3 ≤ 100000) (hH : hs.length + 3 ≤ 100000) (hT : ts.length + 2 ≤ 100000)
    (x y : Int) (hx : U64 x) (hy : U64 y) (u v : Value) (la lb : List Int) (hu : Rd W u la) (hv : Rd W v lb) (hla : la.length ≤ 300) (hlb : lb.length ≤ 1500) :
    Calls Try.prog 12 #[ptr pb, .agg #[.int .i64 8, .int .u64 x, .int .u64 y, u, v]] w fun e w' => e = .returned (.bool true) ∧ Step W w' pb b r S hs ts := by
  have h1 := h.boxed [.int .i64 8, .int .u64 x, .int .u64 y, u, v]
  have HU : Hid (Rd W u la) := hu
  have HV : Hid (Rd W v lb) := hv
  obtain ⟨au, cu, rfl⟩ := hu.len
  obtain ⟨av, cv, rfl⟩ := hv.len
  have hgood := h.goods.1
  have HHU : Hid (∀ z ∈ hs, U64 z) := h.hU
  have HX : Hid (U64 x) := hx
  have HY : Hid (U64 y) := hy
  have HFI : Hid (Fine S) := hf
  have HSH : Hid (Short S) := hsh
  obtain ⟨s, hsv⟩ : ∃ z, pickOf hs x = z := ⟨_, rfl⟩
  have HP : Hid (pickOf hs x = s) := hsv
  have hsU : U64 s := by rw [← hsv]; exact pick_U64 HHU.out HX.out
  have HSU : Hid (U64 s) := hsU
  obtain ⟨tq, htqv⟩ : ∃ z, textOf ts y (.slice av lb.length cv, lb) = z := ⟨_, rfl⟩
  have HTX : Hid (textOf ts y (.slice av lb.length cv, lb) = tq) := htqv
  obtain ⟨g, ek, hun⟩ : ∃ g ek, S.unwrap s tq.2 = (g, ek) := ⟨_, _, rfl⟩
  have HUN : Hid (S.unwrap s tq.2 = (g, ek)) := hun
  clear hsv hsU htqv hun
  clear h hf hsh hgood hu hv hx hy
  obtain ⟨w1, hw1⟩ : ∃ w1, w1 = w.alloc (.cells #[.int .i64 8, .int .u64 x, .int .u64 y, .slice au la.length cu, .slice av lb.length cv] 40) := ⟨_, rfl⟩
  rw [show (List.toArray [Value.int .i64 8, .int .u64 x, .int .u64 y, .slice au la.length cu, .slice av lb.length cv]) = #[.int .i64 8, .int .u64 x, .int .u64 y, .slice au la.length cu, .slice av lb.length cv] from rfl, ← hw1] at h1
  have x0 := (h1.box (List.mem_cons_self)).cell 0 _ rfl
  obtain ⟨p0, p1⟩ := h1.cells
  obtain ⟨bs, hbs⟩ : ∃ bs : List (Nat × List Value), bs = [(w.heap.size, [.int .i64 8, .int .u64 x, .int .u64 y, .slice au la.length cu, .slice av lb.length cv])] := ⟨_, rfl⟩
  rw [← hbs] at h1
  have HBX : Hid (∀ w' S T hs ts xs, Game W w' pb b r S T hs ts xs bs → Blk w' w.heap.size 40 [.int .i64 8, .int .u64 x, .int .u64 y, .slice au la.length cu, .slice av lb.length cv]) := fun w' S T hs ts xs hG => by
    rw [hbs] at hG
    exact hG.box (List.mem_cons_self)
  have HG1 : Hid (Game W w1 pb b r S S hs ts [] bs) := h1
  clear h1 hbs
  dsimp only at x0
  go_enter Try.func12, Try.ntmps12
  go_upto_region 1 with fail
  rw [← hw1]
  generalize w.heap.size = nb at x0 HBX ⊢
  clear hw1
  go_upto_region 38 with fail
  have q2a := fun z : WIn (fun w' => Below w1.heap.size w1 w') => (HG1.out.below z.ok).cells.1
  have q2f0 := fun z : WIn (fun w' => Below w1.heap.size w1 w') => (HBX.out _ _ _ _ _ _ (HG1.out.below z.ok)).cell 0 _ rfl
  have q2f1 := fun z : WIn (fun w' => Below w1.heap.size w1 w') => (HBX.out _ _ _ _ _ _ (HG1.out.below z.ok)).cell 1 _ rfl
  have q2f2 := fun z : WIn (fun w' => Below w1.heap.size w1 w') => (HBX.out _ _ _ _ _ _ (HG1.out.below z.ok)).cell 2 _ rfl
  have q2f3 := fun z : WIn (fun w' => Below w1.heap.size w1 w') => (HBX.out _ _ _ _ _ _ (HG1.out.below z.ok)).cell 3 _ rfl
  have q2f4 := fun z : WIn (fun w' => Below w1.heap.size w1 w') => (HBX.out _ _ _ _ _ _ (HG1.out.below z.ok)).cell 4 _ rfl
  have ne2 : Nonempty (WIn (fun w' => Below w1.heap.size w1 w')) := ⟨⟨w1, Below.refl _ _⟩⟩
  refine wp_region_three (C := fun w' => ∃ z : WIn (fun w' => Below w1.heap.size w1 w'), w' = z.w) 11 (by kernel_rfl) (by kernel_rfl) rfl rfl ⟨⟨w1.drew, (Below.refl _ _).drew⟩, rfl⟩ ?_
  simp only [List.take_succ_cons, List.take_zero, List.drop_succ_cons, List.drop_zero]
  repeat (go_big_quiet_step (first | (go_at_call 31; refine (pick_any (HG1.out.below (WIn.ok _)) (by omega) x HX.out).mono ?_; rw [HP.out]; rintro e w' ⟨rfl, rfl⟩; exact ⟨rfl, _, rfl⟩) | (go_at_call 36; refine (text_any (HG1.out.below (WIn.ok _)) (by omega) 8 x y HY.out (.slice au la.length cu) la HU.out (.slice av lb.length cv) lb HV.out).mono ?_; rw [HTX.out]; rintro e w' ⟨rfl, hb⟩; exact ⟨rfl, ⟨w', bnext (WIn.ok _) hb⟩, rfl⟩)))
  refine wpQuiet_nil ?_
  rintro w2a ⟨⟨w2, ok2⟩, rfl⟩
  go_simp
  refine (gunwrap (HG1.out.below ok2) s (by have := (HG1.out.below ok2).text (q := (.slice av lb.length cv, lb)) HV.out y HY.out.1; rw [HTX.out] at this; exact this)).mono ?_
  rw [HUN.out]
  rintro e w3 ⟨rfl, hb3⟩
  have HG3 : Hid (Game W w3 pb b r S S hs ts [] bs) := HG1.out.below (bnext ok2 hb3)
  clear hb3
  dsimp only
  go_simp
  repeat (go_big_quiet_step (fail))
  refine wpQuiet_nil ?_
  clear q2a q2f0 q2f1 q2f2 q2f3 q2f4 ne2 ok2
  go_upto_region 39 with fail
  have q4a := fun z : WIn (fun w' => Below w3.heap.size w3 w') => (HG3.out.below z.ok).cells.2
  have q4f0 := fun z : WIn (fun w' => Below w3.heap.size w3 w') => (HBX.out _ _ _ _ _ _ (HG3.out.below z.ok)).cell 0 _ rfl
  have q4f1 := fun z : WIn (fun w' => Below w3.heap.size w3 w') => (HBX.out _ _ _ _ _ _ (HG3.out.below z.ok)).cell 1 _ rfl
  have q4f2 := fun z : WIn (fun w' => Below w3.heap.size w3 w') => (HBX.out _ _ _ _ _ _ (HG3.out.below z.ok)).cell 2 _ rfl
  have q4f3 := fun z : WIn (fun w' => Below w3.heap.size w3 w') => (HBX.out _ _ _ _ _ _ (HG3.out.below z.ok)).cell 3 _ rfl
  have q4f4 := fun z : WIn (fun w' => Below w3.heap.size w3 w') => (HBX.out _ _ _ _ _ _ (HG3.out.below z.ok)).cell 4 _ rfl
  have ne4 : Nonempty (WIn (fun w' => Below w3.heap.size w3 w')) := ⟨⟨w3, Below.refl _ _⟩⟩
  refine wp_region_three (C := fun w' => ∃ z : WIn (fun w' => Below w3.heap.size w3 w'), w' = z.w) 11 (by kernel_rfl) (by kernel_rfl) rfl rfl ⟨⟨w3.drew, (Below.refl _ _).drew⟩, rfl⟩ ?_
  simp only [List.take_succ_cons, List.take_zero, List.drop_succ_cons, List.drop_zero]
  repeat (go_big_quiet_step (first | (go_at_call 31; refine (pick_any (HG3.out.below (WIn.ok _)) (by omega) x HX.out).mono ?_; rw [HP.out]; rintro e w' ⟨rfl, rfl⟩; exact ⟨rfl, _, rfl⟩) | (go_at_call 36; refine (text_any (HG3.out.below (WIn.ok _)) (by omega) 8 x y HY.out (.slice au la.length cu) la HU.out (.slice av lb.length cv) lb HV.out).mono ?_; rw [HTX.out]; rintro e w' ⟨rfl, hb⟩; exact ⟨rfl, ⟨w', bnext (WIn.ok _) hb⟩, rfl⟩)))
  refine wpQuiet_nil ?_
  rintro w4a ⟨⟨w4, ok4⟩, rfl⟩
  go_simp
  refine (munwrap (HG3.out.below ok4) HFI.out s (by have := (HG3.out.below ok4).text (q := (.slice av lb.length cv, lb)) HV.out y HY.out.1; rw [HTX.out] at this; exact this)).mono ?_
  rw [HUN.out]
  rintro e w5 ⟨rfl, hb5⟩
  have HG5 : Hid (Game W w5 pb b r S S hs ts [] bs) := HG3.out.below (bnext ok4 hb5)
  clear hb5
  dsimp only
  go_simp
  repeat (go_big_quiet_step (fail))
  refine wpQuiet_nil ?_
  clear q4a q4f0 q4f1 q4f2 q4f3 q4f4 ne4 ok4
  go_wp2
  go_ret
  exact ⟨by simp, S, hs, ts, HG5.out.unbox, HFI.out, HSH.out, by omega, by omega, by omega⟩
end

section
set_option linter.unusedVariables false
set_option synthInstance.maxSize 20000
open Classical
open Go.RowKit Go.Maps

set_option maxHeartbeats 4000000 in
set_option maxRecDepth 20000 in
theorem do_other (W w : World) (pb b r : Nat) (S : St) (hs : List Int) (ts : List (Value × List Int)) (h : Game W w pb b r S S hs ts [] []) (hf : Fine S) (hsh : Short S) (hN : S.rows.length + 3 ≤ 100000) (hH : hs.length + 3 ≤ 100000) (hT : ts.length + 2 ≤ 100000)
    (k x y : Int) (hk : k < 0 ∨ 8 < k) (hx : U64 x) (hy : U64 y) (u v : Value) (la lb : List Int) (hu : Rd W u la) (hv : Rd W v lb) (hla : la.length ≤ 300) (hlb : lb.length ≤ 1500) :
    Calls Try.prog 12 #[ptr pb, .agg #[.int .i64 k, .int .u64 x, .int .u64 y, u, v]] w fun e w' => e = .returned (.bool true) ∧ Step W w' pb b r S hs ts := by
  have h1 := h.boxed [.int .i64 k, .int .u64 x, .int .u64 y, u, v]
  have HU : Hid (Rd W u la) := hu
  have HV : Hid (Rd W v lb) := hv
  obtain ⟨au, cu, rfl⟩ := hu.len
  obtain ⟨av, cv, rfl⟩ := hv.len
  have hgood := h.goods.1
  have HHU : Hid (∀ z ∈ hs, U64 z) := h.hU
  have HX : Hid (U64 x) := hx
  have HY : Hid (U64 y) := hy
  have HFI : Hid (Fine S) := hf
  have HSH : Hid (Short S) := hsh
  have k0 : (k == 0) = false := by simp; omega
  have k1 : (k == 1) = false := by simp; omega
  have k2 : (k == 2) = false := by simp; omega
  have k3 : (k == 3) = false := by simp; omega
  have k4 : (k == 4) = false := by simp; omega
  have k5 : (k == 5) = false := by simp; omega
  have k6 : (k == 6) = false := by simp; omega
  have k7 : (k == 7) = false := by simp; omega
  have k8 : (k == 8) = false := by simp; omega
  clear h hf hsh hgood hu hv hx hy
  obtain ⟨w1, hw1⟩ : ∃ w1, w1 = w.alloc (.cells #[.int .i64 k, .int .u64 x, .int .u64 y, .slice au la.length cu, .slice av lb.length cv] 40) := ⟨_, rfl⟩
  rw [show (List.toArray [Value.int .i64 k, .int .u64 x, .int .u64 y, .slice au la.length cu, .slice av lb.length cv]) = #[.int .i64 k, .int .u64 x, .int .u64 y, .slice au la.length cu, .slice av lb.length cv] from rfl, ← hw1] at h1
  have x0 := (h1.box (List.mem_cons_self)).cell 0 _ rfl
  obtain ⟨p0, p1⟩ := h1.cells
  obtain ⟨bs, hbs⟩ : ∃ bs : List (Nat × List Value), bs = [(w.heap.size, [.int .i64 k, .int .u64 x, .int .u64 y, .slice au la.length cu, .slice av lb.length cv])] := ⟨_, rfl⟩
  rw [← hbs] at h1
  have HBX : Hid (∀ w' S T hs ts xs, Game W w' pb b r S T hs ts xs bs → Blk w' w.heap.size 40 [.int .i64 k, .int .u64 x, .int .u64 y, .slice au la.length cu, .slice av lb.length cv]) := fun w' S T hs ts xs hG => by
    rw [hbs] at hG
    exact hG.box (List.mem_cons_self)
  have HG1 : Hid (Game W w1 pb b r S S hs ts [] bs) := h1
  clear h1 hbs
  dsimp only at x0
  go_enter Try.func12, Try.ntmps12
  go_upto_region 1 with fail
  rw [← hw1]
  generalize w.heap.size = nb at x0 HBX ⊢
  clear hw1
  go_wp2
  go_ret
  exact ⟨by simp, S, hs, ts, HG1.out.unbox, HFI.out, HSH.out, by omega, by omega, by omega⟩
end
end Go.Proofs.Ytcacioogklgahaa
