/-
  A call of Hash, by both.
  A call of Key, by both.
  A call of Pair, by both.
-/
import Derived.Test.YtcacioogklgahaaDoBase
import Derived.Test.YtcacioogklgahaaHeads2
namespace Go.Proofs.Ytcacioogklgahaa
section
set_option linter.unusedVariables false
set_option synthInstance.maxSize 20000
open Classical
open Go.RowKit Go.Maps

set_option maxHeartbeats 4000000 in
set_option maxRecDepth 20000 in
theorem do_hash (W w : World) (pb b r : Nat) (S : St) (hs : List Int) (ts : List (Value × List Int)) (h : Game W w pb b r S S hs ts [] []) (hf : Fine S) (hsh : Short S) (hN : S.rows.length + 3 ≤ 100000) (hH : hs.length + 3 ≤ 100000) (hT : ts.length + 2 ≤ 100000)
    (x y : Int) (hx : U64 x) (hy : U64 y) (u v : Value) (la lb : List Int) (hu : Rd W u la) (hv : Rd W v lb) (hla : la.length ≤ 300) (hlb : lb.length ≤ 1500) :
    Calls Try.prog 12 #[ptr pb, .agg #[.int .i64 0, .int .u64 x, .int .u64 y, u, v]] w fun e w' => e = .returned (.bool true) ∧ Step W w' pb b r S hs ts := by
  have h1 := h.boxed [.int .i64 0, .int .u64 x, .int .u64 y, u, v]
  have HU : Hid (Rd W u la) := hu
  have HV : Hid (Rd W v lb) := hv
  obtain ⟨au, cu, rfl⟩ := hu.len
  obtain ⟨av, cv, rfl⟩ := hv.len
  have hgood := h.goods.1
  have HHU : Hid (∀ z ∈ hs, U64 z) := h.hU
  have HX : Hid (U64 x) := hx
  have HY : Hid (U64 y) := hy
  have HFI : Hid (Fine S) := hf
  have HSH : Hid (Short S) := hsh
  have HOW : Hid (WhatOk (.hash la)) := (hu.oct : WhatOk (.hash la))
  obtain ⟨g, S1, hgt⟩ : ∃ g S1, S.get (.hash la) = (g, S1) := ⟨_, _, rfl⟩
  have HGT : Hid (S.get (.hash la) = (g, S1)) := hgt
  have hF1 : Fine S1 := by have := hf.get hgood (by omega) (x := .hash la) (fun _ _ _ e => by cases e); rw [hgt] at this; exact this
  have hS1 : Short S1 := by have := hsh.get (x := .hash la) (fun _ _ _ e => by cases e); rw [hgt] at this; exact this
  have hl1 : S1.rows.length ≤ S.rows.length + 1 := by have := get_len S (.hash la); rw [hgt] at this; exact this
  have hgU : U64 g := by have := (get_ne hgood (by omega) HOW.out).2; rw [hgt] at this; exact this
  have HR : Hid (Fine S1 ∧ Short S1 ∧ U64 g) := ⟨hF1, hS1, hgU⟩
  clear hgt hF1 hS1 hgU
  clear h hf hsh hgood hu hv hx hy
  obtain ⟨w1, hw1⟩ : ∃ w1, w1 = w.alloc (.cells #[.int .i64 0, .int .u64 x, .int .u64 y, .slice au la.length cu, .slice av lb.length cv] 40) := ⟨_, rfl⟩
  rw [show (List.toArray [Value.int .i64 0, .int .u64 x, .int .u64 y, .slice au la.length cu, .slice av lb.length cv]) = #[.int .i64 0, .int .u64 x, .int .u64 y, .slice au la.length cu, .slice av lb.length cv] from rfl, ← hw1] at h1
  have x0 := (h1.box (List.mem_cons_self)).cell 0 _ rfl
  obtain ⟨p0, p1⟩ := h1.cells
  obtain ⟨bs, hbs⟩ : ∃ bs : List (Nat × List Value), bs = [(w.heap.size, [.int .i64 0, .int .u64 x, .int .u64 y, .slice au la.length cu, .slice av lb.length cv])] := ⟨_, rfl⟩
  rw [← hbs] at h1
  have HBX : Hid (∀ w' S T hs ts xs, Game W w' pb b r S T hs ts xs bs → Blk w' w.heap.size 40 [.int .i64 0, .int .u64 x, .int .u64 y, .slice au la.length cu, .slice av lb.length cv]) := fun w' S T hs ts xs hG => by
    rw [hbs] at hG
    exact hG.box (List.mem_cons_self)
  have HG1 : Hid (Game W w1 pb b r S S hs ts [] bs) := h1
  clear h1 hbs
  dsimp only at x0
  go_enter Try.func12, Try.ntmps12
  go_upto_region 1 with fail
  rw [← hw1]
  generalize w.heap.size = nb at x0 HBX ⊢
  clear hw1
  go_upto_region 3 with fail
  have q0 := fun z : WIn (fun w' => Game W w' pb b r S S hs ts [] bs ∨ Game W w' pb b r S1 S hs ts [] bs) => (z.ok.elim (fun g => g.cells.1) (fun g => g.cells.1) : z.w.cell? ⟨pb, 0, none⟩ = some (ptr b))
  have q1 := fun z : WIn (fun w' => Game W w' pb b r S S hs ts [] bs ∨ Game W w' pb b r S1 S hs ts [] bs) => (z.ok.elim (fun g => g.cells.2) (fun g => g.cells.2) : z.w.cell? ⟨pb, 1, none⟩ = some (ptr r))
  have q3 := fun z : WIn (fun w' => Game W w' pb b r S S hs ts [] bs ∨ Game W w' pb b r S1 S hs ts [] bs) => (z.ok.elim (fun g => (HBX.out _ _ _ _ _ _ g).cell 3 _ rfl) (fun g => (HBX.out _ _ _ _ _ _ g).cell 3 _ rfl) : z.w.cell? ⟨nb, 3, none⟩ = some (.slice au la.length cu))
  have ne2 : Nonempty (WIn (fun w' => Game W w' pb b r S S hs ts [] bs ∨ Game W w' pb b r S1 S hs ts [] bs)) := ⟨⟨w1, .inl HG1.out⟩⟩
  refine wp_region_four (C0 := fun w' => Game W w' pb b r S S hs ts [] bs) (C1 := fun w' => Game W w' pb b r S1 S hs ts [] bs) (CU := fun w' => ∃ z : WIn (fun w' => Game W w' pb b r S S hs ts [] bs ∨ Game W w' pb b r S1 S hs ts [] bs), w' = z.w) (fun w h => ⟨⟨w, h⟩, rfl⟩) 6 13 (by kernel_rfl) (by kernel_rfl) rfl rfl rfl rfl (HG1.out.below (Below.refl _ _).drew) ?_
  simp only [List.take_succ_cons, List.take_zero, List.drop_succ_cons, List.drop_zero, Nat.reduceAdd, Nat.reduceSub]
  repeat (go_big_quiet_step (fail))
  refine wpQuiet_nil ?_
  refine ⟨.int .u64 g, fun w' g1 => ?_, ?_⟩
  · have HGa : Hid (Game W w' pb b r S S hs ts [] bs) := g1
    clear g1 q0 q1 q3 ne2
    simp [go_sem, callUpon]
    refine (ghash HGa.out (by omega) HU.out (by omega)).mono ?_
    rw [HGT.out]
    exact fun e w2 h => h
  · go_simp
    repeat (go_big_quiet_step (fail))
    refine wpQuiet_nil ?_
    intro w2 g2
    have HG2 : Hid (Game W w2 pb b r S1 S hs ts [] bs) := g2
    clear g2
    go_simp
    refine (mhash HG2.out (by omega) HU.out).mono ?_
    rw [HGT.out]
    rintro e w3 ⟨rfl, g3⟩
    have HG3 : Hid (Game W w3 pb b r S1 S1 hs ts [] bs) := g3
    clear g3
    dsimp only
    go_simp
    repeat (go_big_quiet_step (fail))
    refine wpQuiet_nil ?_
    clear q0 q1 q3 ne2
    go_wp2_with (go_at_call 28; go_must (refine (told_any HG3.out (by omega) g HR.out.2.2).mono ?_; rintro e w4 ⟨rfl, g4⟩))
    go_ret
    refine ⟨by simp, S1, toldOf hs g, ts, g4.unbox, HR.out.1, HR.out.2.1, by omega, ?_, by omega⟩
    have := toldOf_len hs g
    omega
end

section
set_option linter.unusedVariables false
set_option synthInstance.maxSize 20000
open Classical
open Go.RowKit Go.Maps

set_option maxHeartbeats 4000000 in
set_option maxRecDepth 20000 in
theorem do_key (W w : World) (pb b r : Nat) (S : St) (hs : List Int) (ts : List (Value × List Int)) (h : Game W w pb b r S S hs ts [] []) (hf : Fine S) (hsh : Short S) (hN : S.rows.length + 3 ≤ 100000) (hH : hs.length + 3 ≤ 100000) (hT : ts.length + 2 ≤ 100000)
    (x y : Int) (hx : U64 x) (hy : U64 y) (u v : Value) (la lb : List Int) (hu : Rd W u la) (hv : Rd W v lb) (hla : la.length ≤ 300) (hlb : lb.length ≤ 1500) :
    Calls Try.prog 12 #[ptr pb, .agg #[.int .i64 1, .int .u64 x, .int .u64 y, u, v]] w fun e w' => e = .returned (.bool true) ∧ Step W w' pb b r S hs ts := by
  have h1 := h.boxed [.int .i64 1, .int .u64 x, .int .u64 y, u, v]
  have HU : Hid (Rd W u la) := hu
  have HV : Hid (Rd W v lb) := hv
  obtain ⟨au, cu, rfl⟩ := hu.len
  obtain ⟨av, cv, rfl⟩ := hv.len
  have hgood := h.goods.1
  have HHU : Hid (∀ z ∈ hs, U64 z) := h.hU
  have HX : Hid (U64 x) := hx
  have HY : Hid (U64 y) := hy
  have HFI : Hid (Fine S) := hf
  have HSH : Hid (Short S) := hsh
  have hU := (fresh_ok hgood (by omega)).2.2.1
  obtain ⟨f, hfr⟩ : ∃ f, S.fresh = f := ⟨_, rfl⟩
  have HF : Hid (S.fresh = f) := hfr
  rw [hfr] at hU
  have HFS : Hid (Fine (S.put .key) ∧ Short (S.put .key)) := ⟨hf.put hgood (by omega) (fun _ _ e => by cases e) (fun _ _ _ e => by cases e), hsh.put (fun _ _ _ e => by cases e)⟩
  clear hfr
  clear h hf hsh hgood hu hv hx hy
  obtain ⟨w1, hw1⟩ : ∃ w1, w1 = w.alloc (.cells #[.int .i64 1, .int .u64 x, .int .u64 y, .slice au la.length cu, .slice av lb.length cv] 40) := ⟨_, rfl⟩
  rw [show (List.toArray [Value.int .i64 1, .int .u64 x, .int .u64 y, .slice au la.length cu, .slice av lb.length cv]) = #[.int .i64 1, .int .u64 x, .int .u64 y, .slice au la.length cu, .slice av lb.length cv] from rfl, ← hw1] at h1
  have x0 := (h1.box (List.mem_cons_self)).cell 0 _ rfl
  obtain ⟨p0, p1⟩ := h1.cells
  obtain ⟨bs, hbs⟩ : ∃ bs : List (Nat × List Value), bs = [(w.heap.size, [.int .i64 1, .int .u64 x, .int .u64 y, .slice au la.length cu, .slice av lb.length cv])] := ⟨_, rfl⟩
  rw [← hbs] at h1
  have HBX : Hid (∀ w' S T hs ts xs, Game W w' pb b r S T hs ts xs bs → Blk w' w.heap.size 40 [.int .i64 1, .int .u64 x, .int .u64 y, .slice au la.length cu, .slice av lb.length cv]) := fun w' S T hs ts xs hG => by
    rw [hbs] at hG
    exact hG.box (List.mem_cons_self)
  have HG1 : Hid (Game W w1 pb b r S S hs ts [] bs) := h1
  clear h1 hbs
  dsimp only at x0
  go_enter Try.func12, Try.ntmps12
  go_upto_region 1 with fail
  rw [← hw1]
  generalize w.heap.size = nb at x0 HBX ⊢
  clear hw1
  go_upto_region 7 with fail
  have q0 := fun z : WIn (fun w' => Game W w' pb b r S S hs ts [] bs ∨ Game W w' pb b r (S.put .key) S hs ts [] bs) => (z.ok.elim (fun g => g.cells.1) (fun g => g.cells.1) : z.w.cell? ⟨pb, 0, none⟩ = some (ptr b))
  have q1 := fun z : WIn (fun w' => Game W w' pb b r S S hs ts [] bs ∨ Game W w' pb b r (S.put .key) S hs ts [] bs) => (z.ok.elim (fun g => g.cells.2) (fun g => g.cells.2) : z.w.cell? ⟨pb, 1, none⟩ = some (ptr r))
  have ne2 : Nonempty (WIn (fun w' => Game W w' pb b r S S hs ts [] bs ∨ Game W w' pb b r (S.put .key) S hs ts [] bs)) := ⟨⟨w1, .inl HG1.out⟩⟩
  refine wp_region_four (C0 := fun w' => Game W w' pb b r S S hs ts [] bs) (C1 := fun w' => Game W w' pb b r (S.put .key) S hs ts [] bs) (CU := fun w' => ∃ z : WIn (fun w' => Game W w' pb b r S S hs ts [] bs ∨ Game W w' pb b r (S.put .key) S hs ts [] bs), w' = z.w) (fun w h => ⟨⟨w, h⟩, rfl⟩) 4 9 (by kernel_rfl) (by kernel_rfl) rfl rfl rfl rfl (HG1.out.below (Below.refl _ _).drew) ?_
  simp only [List.take_succ_cons, List.take_zero, List.drop_succ_cons, List.drop_zero, Nat.reduceAdd, Nat.reduceSub]
  repeat (go_big_quiet_step (fail))
  refine wpQuiet_nil ?_
  refine ⟨.int .u64 f, fun w' g1 => ?_, ?_⟩
  · have HGa : Hid (Game W w' pb b r S S hs ts [] bs) := g1
    clear g1 q0 q1 ne2
    simp [go_sem, callUpon]
    refine (gkey HGa.out (by omega)).mono ?_
    rw [HF.out]
    exact fun e w2 h => h
  · go_simp
    repeat (go_big_quiet_step (fail))
    refine wpQuiet_nil ?_
    intro w2 g2
    have HG2 : Hid (Game W w2 pb b r (S.put .key) S hs ts [] bs) := g2
    clear g2
    go_simp
    refine (mkey HG2.out (by omega)).mono ?_
    rw [HF.out]
    rintro e w3 ⟨rfl, g3⟩
    have HG3 : Hid (Game W w3 pb b r (S.put .key) (S.put .key) hs ts [] bs) := g3
    clear g3
    dsimp only
    go_simp
    repeat (go_big_quiet_step (fail))
    refine wpQuiet_nil ?_
    clear q0 q1 ne2
    go_wp2_with (go_at_call 28; go_must (refine (told_any HG3.out (by omega) f hU).mono ?_; rintro e w4 ⟨rfl, g4⟩))
    go_ret
    refine ⟨by simp, S.put .key, toldOf hs f, ts, g4.unbox, HFS.out.1, HFS.out.2, by rw [put_len]; omega, ?_, by omega⟩
    have := toldOf_len hs f
    omega
end

section
set_option linter.unusedVariables false
set_option synthInstance.maxSize 20000
open Classical
open Go.RowKit Go.Maps

set_option maxHeartbeats 4000000 in
set_option maxRecDepth 20000 in
theorem do_pair (W w : World) (pb b r : Nat) (S : St) (hs : List Int) (ts : List (Value × List Int)) (h : Game W w pb b r S S hs ts [] []) (hf : Fine S) (hsh : Short S) (hN : S.rows.length + 3 ≤ 100000) (hH : hs.length + 3 ≤ 100000) (hT : ts.length + 2 ≤ 100000)
    (x y : Int) (hx : U64 x) (hy : U64 y) (u v : Value) (la lb : List Int) (hu : Rd W u la) (hv : Rd W v lb) (hla : la.length ≤ 300) (hlb : lb.length ≤ 1500) :
    Calls Try.prog 12 #[ptr pb, .agg #[.int .i64 2, .int .u64 x, .int .u64 y, u, v]] w fun e w' => e = .returned (.bool true) ∧ Step W w' pb b r S hs ts := by
  have h1 := h.boxed [.int .i64 2, .int .u64 x, .int .u64 y, u, v]
  have HU : Hid (Rd W u la) := hu
  have HV : Hid (Rd W v lb) := hv
  obtain ⟨au, cu, rfl⟩ := hu.len
  obtain ⟨av, cv, rfl⟩ := hv.len
  have hgood := h.goods.1
  have HHU : Hid (∀ z ∈ hs, U64 z) := h.hU
  have HX : Hid (U64 x) := hx
  have HY : Hid (U64 y) := hy
  have HFI : Hid (Fine S) := hf
  have HSH : Hid (Short S) := hsh
  obtain ⟨f, hfr⟩ : ∃ f, S.fresh = f := ⟨_, rfl⟩
  obtain ⟨g, hgr⟩ : ∃ g, (S.put .secret).fresh = g := ⟨_, rfl⟩
  have HF : Hid (S.fresh = f) := hfr
  have HGF : Hid ((S.put .secret).fresh = g) := hgr
  have hfU := (fresh_ok hgood (by omega)).2.2.1
  have hgU := (fresh_ok (put_good hgood (by omega) (x := .secret) trivial) (by rw [put_len]; omega)).2.2.1
  rw [hfr] at hfU
  rw [hgr] at hgU
  have HR : Hid (Fine S.pair ∧ Short S.pair) := ⟨hf.pair hgood (by omega), (hsh.put (x := .secret) (fun _ _ _ e => by cases e)).put (fun _ _ _ e => by cases e)⟩
  have hpl := pair_len S
  have ht1 := toldOf_len hs f
  have ht2 := toldOf_len (toldOf hs f) g
  clear hfr hgr
  clear h hf hsh hgood hu hv hx hy
  obtain ⟨w1, hw1⟩ : ∃ w1, w1 = w.alloc (.cells #[.int .i64 2, .int .u64 x, .int .u64 y, .slice au la.length cu, .slice av lb.length cv] 40) := ⟨_, rfl⟩
  rw [show (List.toArray [Value.int .i64 2, .int .u64 x, .int .u64 y, .slice au la.length cu, .slice av lb.length cv]) = #[.int .i64 2, .int .u64 x, .int .u64 y, .slice au la.length cu, .slice av lb.length cv] from rfl, ← hw1] at h1
  have x0 := (h1.box (List.mem_cons_self)).cell 0 _ rfl
  obtain ⟨p0, p1⟩ := h1.cells
  obtain ⟨bs, hbs⟩ : ∃ bs : List (Nat × List Value), bs = [(w.heap.size, [.int .i64 2, .int .u64 x, .int .u64 y, .slice au la.length cu, .slice av lb.length cv])] := ⟨_, rfl⟩
  rw [← hbs] at h1
  have HBX : Hid (∀ w' S T hs ts xs, Game W w' pb b r S T hs ts xs bs → Blk w' w.heap.size 40 [.int .i64 2, .int .u64 x, .int .u64 y, .slice au la.length cu, .slice av lb.length cv]) := fun w' S T hs ts xs hG => by
    rw [hbs] at hG
    exact hG.box (List.mem_cons_self)
  have HG1 : Hid (Game W w1 pb b r S S hs ts [] bs) := h1
  clear h1 hbs
  dsimp only at x0
  go_enter Try.func12, Try.ntmps12
  go_upto_region 1 with fail
  rw [← hw1]
  generalize w.heap.size = nb at x0 HBX ⊢
  clear hw1
  go_wp2_with (first
    | (go_at_call 21; go_must (refine (gpair HG1.out (by omega)).mono ?_; rw [HF.out, HGF.out]; rintro e w2 ⟨rfl, g2⟩; have HG2 : Hid (Game W w2 pb b r S.pair S hs ts [] bs) := g2; have p2 := g2.cells.2; clear g2 HG1))
    | (go_at_call 30; go_must (refine (mpair HG2.out (by omega)).mono ?_; rw [HF.out, HGF.out]; rintro e w3 ⟨rfl, g3⟩; have HG3 : Hid (Game W w3 pb b r S.pair S.pair hs ts [] bs) := g3; clear g3 HG2))
    | (go_at_call 28; go_must (first
      | (refine (told_any HG3.out (by omega) f hfU).mono ?_; rintro e w4 ⟨rfl, g4⟩; have HG4 : Hid (Game W w4 pb b r S.pair S.pair (toldOf hs f) ts [] bs) := g4; clear g4 HG3)
      | (refine (told_any HG4.out (by omega) g hgU).mono ?_; rintro e w5 ⟨rfl, g5⟩))))
  go_ret
  exact ⟨by simp, S.pair, toldOf (toldOf hs f) g, ts, g5.unbox, HR.out.1, HR.out.2, by omega, by omega, by omega⟩
end
end Go.Proofs.Ytcacioogklgahaa
