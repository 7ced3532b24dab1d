/-
  A call of Seal, by both.
  A call of Open, by both.
-/
import Derived.Test.YtcacioogklgahaaDoBase
namespace Go.Proofs.Ytcacioogklgahaa
section
set_option linter.unusedVariables false
set_option synthInstance.maxSize 20000
open Classical
open Go.RowKit Go.Maps

theorem info38 : (Try.prog.info? 38).map (fun i => (i.zero, i.size, i.bytes)) = some (some (.slice none 0 0), 1, 24) := by kernel_rfl
theorem short_seal {S : St} (h : Short S) (k : Int) (b : List Int) {p : List Int} (hp : p.length ≤ 1000000) : Short (S.seal k b p).2 := by
  unfold St.seal
  split
  · split
    · exact h
    · exact h.put (fun k' b' p' e => by cases e; exact hp)
  · exact h

set_option maxHeartbeats 4000000 in
set_option maxRecDepth 20000 in
theorem do_seal (W w : World) (pb b r : Nat) (S : St) (hs : List Int) (ts : List (Value × List Int)) (h : Game W w pb b r S S hs ts [] []) (hf : Fine S) (hsh : Short S) (hN : S.rows.length + 3 ≤ 100000) (hH : hs.length + 3 ≤ 100000) (hT : ts.length + 2 ≤ 100000)
    (x y : Int) (hx : U64 x) (hy : U64 y) (u v : Value) (la lb : List Int) (hu : Rd W u la) (hv : Rd W v lb) (hla : la.length ≤ 300) (hlb : lb.length ≤ 1500) :
    Calls Try.prog 12 #[ptr pb, .agg #[.int .i64 5, .int .u64 x, .int .u64 y, u, v]] w fun e w' => e = .returned (.bool true) ∧ Step W w' pb b r S hs ts := by
  have h1 := h.boxed [.int .i64 5, .int .u64 x, .int .u64 y, u, v]
  have HU : Hid (Rd W u la) := hu
  have HV : Hid (Rd W v lb) := hv
  obtain ⟨au, cu, rfl⟩ := hu.len
  obtain ⟨av, cv, rfl⟩ := hv.len
  have hgood := h.goods.1
  have HHU : Hid (∀ z ∈ hs, U64 z) := h.hU
  have HX : Hid (U64 x) := hx
  have HY : Hid (U64 y) := hy
  have HFI : Hid (Fine S) := hf
  have HSH : Hid (Short S) := hsh
  obtain ⟨s, hsv⟩ : ∃ z, pickOf hs x = z := ⟨_, rfl⟩
  have HP : Hid (pickOf hs x = s) := hsv
  have hsU : U64 s := by rw [← hsv]; exact pick_U64 HHU.out HX.out
  have HSU : Hid (U64 s) := hsU
  obtain ⟨bx, ek, S1, hsg⟩ : ∃ bx ek S1, S.seal s la lb = ((bx, ek), S1) := ⟨_, _, _, rfl⟩
  have HSG : Hid (S.seal s la lb = ((bx, ek), S1)) := hsg
  have hF1 : Fine S1 := by have := hf.seal hgood (by omega) s la lb; rw [hsg] at this; exact this
  have hS1 : Short S1 := by have := short_seal hsh s la (p := lb) (by omega); rw [hsg] at this; exact this
  have hl1 : S1.rows.length ≤ S.rows.length + 1 := by have := seal_len S s la lb; rw [hsg] at this; exact this
  have HR : Hid (Fine S1 ∧ Short S1) := ⟨hF1, hS1⟩
  clear hsv hsU hsg hF1 hS1
  clear h hf hsh hgood hu hv hx hy
  obtain ⟨w1, hw1⟩ : ∃ w1, w1 = w.alloc (.cells #[.int .i64 5, .int .u64 x, .int .u64 y, .slice au la.length cu, .slice av lb.length cv] 40) := ⟨_, rfl⟩
  rw [show (List.toArray [Value.int .i64 5, .int .u64 x, .int .u64 y, .slice au la.length cu, .slice av lb.length cv]) = #[.int .i64 5, .int .u64 x, .int .u64 y, .slice au la.length cu, .slice av lb.length cv] from rfl, ← hw1] at h1
  have x0 := (h1.box (List.mem_cons_self)).cell 0 _ rfl
  obtain ⟨p0, p1⟩ := h1.cells
  obtain ⟨bs, hbs⟩ : ∃ bs : List (Nat × List Value), bs = [(w.heap.size, [.int .i64 5, .int .u64 x, .int .u64 y, .slice au la.length cu, .slice av lb.length cv])] := ⟨_, rfl⟩
  rw [← hbs] at h1
  have HBX : Hid (∀ w' S T hs ts xs, Game W w' pb b r S T hs ts xs bs → Blk w' w.heap.size 40 [.int .i64 5, .int .u64 x, .int .u64 y, .slice au la.length cu, .slice av lb.length cv]) := fun w' S T hs ts xs hG => by
    rw [hbs] at hG
    exact hG.box (List.mem_cons_self)
  have HG1 : Hid (Game W w1 pb b r S S hs ts [] bs) := h1
  clear h1 hbs
  dsimp only at x0
  go_enter Try.func12, Try.ntmps12
  go_upto_region 1 with fail
  rw [← hw1]
  generalize w.heap.size = nb at x0 HBX ⊢
  clear hw1
  go_upto_region 25 with fail
  have q2a := fun z : WIn (fun w' => Below w1.heap.size w1 w') => (HG1.out.below z.ok).cells.1
  have q2b := fun z : WIn (fun w' => Below w1.heap.size w1 w') => (HBX.out _ _ _ _ _ _ (HG1.out.below z.ok)).cell 1 _ rfl
  have q2c := fun z : WIn (fun w' => Below w1.heap.size w1 w') => (HBX.out _ _ _ _ _ _ (HG1.out.below z.ok)).cell 3 _ rfl
  have q2d := fun z : WIn (fun w' => Below w1.heap.size w1 w') => (HBX.out _ _ _ _ _ _ (HG1.out.below z.ok)).cell 4 _ rfl
  have ne2 : Nonempty (WIn (fun w' => Below w1.heap.size w1 w')) := ⟨⟨w1, Below.refl _ _⟩⟩
  refine wp_region_three (C := fun w' => ∃ z : WIn (fun w' => Below w1.heap.size w1 w'), w' = z.w) 12 (by kernel_rfl) (by kernel_rfl) rfl rfl ⟨⟨w1.drew, (Below.refl _ _).drew⟩, rfl⟩ ?_
  simp only [List.take_succ_cons, List.take_zero, List.drop_succ_cons, List.drop_zero]
  repeat (go_big_quiet_step ((go_at_call_of 31 (Value.int IntKind.u64 x); refine (pick_any (HG1.out.below (WIn.ok _)) (by omega) x HX.out).mono ?_; rw [HP.out]; rintro e w' ⟨rfl, rfl⟩; exact ⟨rfl, _, rfl⟩)))
  refine wpQuiet_nil ?_
  rintro w2a ⟨⟨w2, ok2⟩, rfl⟩
  go_simp
  refine (gseal (HG1.out.below ok2) (by omega) HSU.out HU.out HV.out (by omega)).mono ?_
  rw [HSG.out]
  rintro e w3 ⟨v3, rfl, g3⟩
  have HG3 : Hid (Game W w3 pb b r S1 S hs ts [(v3, bx)] bs) := g3
  clear g3
  dsimp only
  go_simp
  repeat (go_big_quiet_step (fail))
  refine wpQuiet_nil ?_
  clear q2a q2b q2c q2d ne2 ok2
  go_upto_region 26 with fail
  have q4a := fun z : WIn (fun w' => Below w3.heap.size w3 w') => (HG3.out.below z.ok).cells.2
  have q4b := fun z : WIn (fun w' => Below w3.heap.size w3 w') => (HBX.out _ _ _ _ _ _ (HG3.out.below z.ok)).cell 1 _ rfl
  have q4c := fun z : WIn (fun w' => Below w3.heap.size w3 w') => (HBX.out _ _ _ _ _ _ (HG3.out.below z.ok)).cell 3 _ rfl
  have q4d := fun z : WIn (fun w' => Below w3.heap.size w3 w') => (HBX.out _ _ _ _ _ _ (HG3.out.below z.ok)).cell 4 _ rfl
  have ne4 : Nonempty (WIn (fun w' => Below w3.heap.size w3 w')) := ⟨⟨w3, Below.refl _ _⟩⟩
  refine wp_region_three (C := fun w' => ∃ z : WIn (fun w' => Below w3.heap.size w3 w'), w' = z.w) 12 (by kernel_rfl) (by kernel_rfl) rfl rfl ⟨⟨w3.drew, (Below.refl _ _).drew⟩, rfl⟩ ?_
  simp only [List.take_succ_cons, List.take_zero, List.drop_succ_cons, List.drop_zero]
  repeat (go_big_quiet_step ((go_at_call_of 31 (Value.int IntKind.u64 x); refine (pick_any (HG3.out.below (WIn.ok _)) (by omega) x HX.out).mono ?_; rw [HP.out]; rintro e w' ⟨rfl, rfl⟩; exact ⟨rfl, _, rfl⟩)))
  refine wpQuiet_nil ?_
  rintro w4a ⟨⟨w4, ok4⟩, rfl⟩
  go_simp
  refine (mseal (HG3.out.below ok4) (by omega) s HU.out HV.out (by omega)).mono ?_
  rw [HSG.out]
  rintro e w5 ⟨v5, rfl, g5⟩
  have HG5 : Hid (Game W w5 pb b r S1 S1 hs ts [(v5, bx), (v3, bx)] bs) := g5
  obtain ⟨va5, vc5, e5⟩ := (g5.held (q := (v5, bx)) (by simp)).len
  dsimp only at e5
  subst e5
  clear g5
  dsimp only
  go_simp
  repeat (go_big_quiet_step (fail))
  refine wpQuiet_nil ?_
  clear q4a q4b q4c q4d ne4 ok4
  have x5 := (HBX.out _ _ _ _ _ _ HG5.out).cell 0 _ rfl
  by_cases he : ek = 0
  · subst he
    obtain ⟨ft, fr, fp, fx, hv', tv, gg⟩ := HG5.out
    obtain ⟨ta, tc, rfl, tl1, tl2⟩ := slice_of_own gg.p.town
    have c3 := gg.p.blk.cell 3 _ rfl
    have f3 := gg.p.blk.frozen 3
    have GG : Hid (G0 W w5 pb b r ft fr fp fx S1 S1 hs ts [(.slice va5 bx.length vc5, bx), (v3, bx)] bs hv' (.slice ta ts.length tc)) := gg
    obtain ⟨i0, hi, hz0, hz1, hz2⟩ := info_parts info38
    clear gg
    go_wp2_with (first
      | (at_builtin; go_must (refine wpList_append_own_at _ rfl _ _ 33 rfl W.heap.size 38 i0 (.slice none 0 0) 1 24 Try.underlying33 hi hz0 hz1 hz2 rfl (by decide) (.slice ta ts.length tc) ts.length (ts.map (·.1)) rfl (GG.out.p.town.alloc _) ⟨w5.heap.size, 0, none⟩ 1 1 [.slice va5 bx.length vc5] rfl rfl (cell_one_new _ _ _) (by simp [Value.oneCell']) (by unfold maxLen; omega) (by omega) (by have := GG.out.o.bel.size; simp; omega) ?_; intro v' w' hown hgrow _ hat; obtain ⟨a', cap', rfl, _, _⟩ := slice_of_own hown; have HGN : Hid (Game W (w'.setCell ⟨pb, 3, none⟩ (.slice a' (ts.length + 1) cap')) pb b r S1 S1 hs (ts ++ [(.slice va5 bx.length vc5, bx)]) [(.slice va5 bx.length vc5, bx), (v3, bx)] bs) := GG.out.note (balloc (Below.refl _ _) _) hown hgrow hat (by simp); have s2 : w'.cell? ⟨pb, 3, none⟩ = some (.slice ta ts.length tc) := hgrow.cell (a := ⟨pb, 3, none⟩) ((below_grown (balloc (Below.refl _ w5) (.cells #[.slice va5 bx.length vc5] 38))).cell c3 (fun e => by cases e)) (fun e => (GG.out.p.tap pb e.symm).2.1 rfl); have s3 : w'.frozen? ⟨pb, 3, none⟩ = false := (by have hb : w'.heap[pb]? = w5.heap[pb]? := (by have hpl := GG.out.p.room pb (by simp [GG.out.p.foot]); rw [hgrow.block pb (by simp; omega) (fun e => (GG.out.p.tap pb e.symm).2.1 rfl)]; exact heap_alloc_old w5 _ hpl); exact (GG.out.p.blk.block hb).frozen 3); clear hown hgrow hat))
      | (go_at_call 15; go_must (refine (same_any _ _ bx bx _ (HGN.out.held (q := (v3, bx)) (by simp)) (HGN.out.held (q := (.slice va5 bx.length vc5, bx)) (by simp))).mono ?_; rw [decide_eq_true (rfl : bx = bx)]; rintro e w9 ⟨rfl, hb9⟩)))
    go_ret
    exact ⟨by simp, S1, hs, ts ++ [(.slice va5 bx.length vc5, bx)], ((HGN.out.below hb9).drop).unbox, HR.out.1, HR.out.2, by omega, by omega, by simp⟩
  · have he' : (ek == 0) = false := by simpa using he
    clear he
    go_wp2_with (go_at_call 15; go_must (refine (same_any _ _ bx bx _ (HG5.out.held (q := (v3, bx)) (by simp)) (HG5.out.held (q := (.slice va5 bx.length vc5, bx)) (by simp))).mono ?_; rw [decide_eq_true (rfl : bx = bx)]; rintro e w9 ⟨rfl, hb9⟩))
    go_ret
    exact ⟨by simp, S1, hs, ts, ((HG5.out.below hb9).drop).unbox, HR.out.1, HR.out.2, by omega, by omega, by omega⟩
end

section
set_option linter.unusedVariables false
set_option synthInstance.maxSize 20000
open Classical
open Go.RowKit Go.Maps

set_option maxHeartbeats 4000000 in
set_option maxRecDepth 20000 in
theorem do_open (W w : World) (pb b r : Nat) (S : St) (hs : List Int) (ts : List (Value × List Int)) (h : Game W w pb b r S S hs ts [] []) (hf : Fine S) (hsh : Short S) (hN : S.rows.length + 3 ≤ 100000) (hH : hs.length + 3 ≤ 100000) (hT : ts.length + 2 ≤ 100000)
    (x y : Int) (hx : U64 x) (hy : U64 y) (u v : Value) (la lb : List Int) (hu : Rd W u la) (hv : Rd W v lb) (hla : la.length ≤ 300) (hlb : lb.length ≤ 1500) :
    Calls Try.prog 12 #[ptr pb, .agg #[.int .i64 6, .int .u64 x, .int .u64 y, u, v]] w fun e w' => e = .returned (.bool true) ∧ Step W w' pb b r S hs ts := by
  have h1 := h.boxed [.int .i64 6, .int .u64 x, .int .u64 y, u, v]
  have HU : Hid (Rd W u la) := hu
  have HV : Hid (Rd W v lb) := hv
  obtain ⟨au, cu, rfl⟩ := hu.len
  obtain ⟨av, cv, rfl⟩ := hv.len
  have hgood := h.goods.1
  have HHU : Hid (∀ z ∈ hs, U64 z) := h.hU
  have HX : Hid (U64 x) := hx
  have HY : Hid (U64 y) := hy
  have HFI : Hid (Fine S) := hf
  have HSH : Hid (Short S) := hsh
  obtain ⟨s, hsv⟩ : ∃ z, pickOf hs x = z := ⟨_, rfl⟩
  have HP : Hid (pickOf hs x = s) := hsv
  have hsU : U64 s := by rw [← hsv]; exact pick_U64 HHU.out HX.out
  have HSU : Hid (U64 s) := hsU
  obtain ⟨tq, htqv⟩ : ∃ z, textOf ts y (.slice av lb.length cv, lb) = z := ⟨_, rfl⟩
  have HTX : Hid (textOf ts y (.slice av lb.length cv, lb) = tq) := htqv
  obtain ⟨ol, ek, hun⟩ : ∃ ol ek, S.open s la tq.2 = (ol, ek) := ⟨_, _, rfl⟩
  have HUN : Hid (S.open s la tq.2 = (ol, ek)) := hun
  clear hsv hsU htqv hun
  clear h hf hsh hgood hu hv hx hy
  obtain ⟨w1, hw1⟩ : ∃ w1, w1 = w.alloc (.cells #[.int .i64 6, .int .u64 x, .int .u64 y, .slice au la.length cu, .slice av lb.length cv] 40) := ⟨_, rfl⟩
  rw [show (List.toArray [Value.int .i64 6, .int .u64 x, .int .u64 y, .slice au la.length cu, .slice av lb.length cv]) = #[.int .i64 6, .int .u64 x, .int .u64 y, .slice au la.length cu, .slice av lb.length cv] from rfl, ← hw1] at h1
  have x0 := (h1.box (List.mem_cons_self)).cell 0 _ rfl
  obtain ⟨p0, p1⟩ := h1.cells
  obtain ⟨bs, hbs⟩ : ∃ bs : List (Nat × List Value), bs = [(w.heap.size, [.int .i64 6, .int .u64 x, .int .u64 y, .slice au la.length cu, .slice av lb.length cv])] := ⟨_, rfl⟩
  rw [← hbs] at h1
  have HBX : Hid (∀ w' S T hs ts xs, Game W w' pb b r S T hs ts xs bs → Blk w' w.heap.size 40 [.int .i64 6, .int .u64 x, .int .u64 y, .slice au la.length cu, .slice av lb.length cv]) := fun w' S T hs ts xs hG => by
    rw [hbs] at hG
    exact hG.box (List.mem_cons_self)
  have HG1 : Hid (Game W w1 pb b r S S hs ts [] bs) := h1
  clear h1 hbs
  dsimp only at x0
  go_enter Try.func12, Try.ntmps12
  go_upto_region 1 with fail
  rw [← hw1]
  generalize w.heap.size = nb at x0 HBX ⊢
  clear hw1
  go_upto_region 34 with fail
  have q2a := fun z : WIn (fun w' => Below w1.heap.size w1 w') => (HG1.out.below z.ok).cells.1
  have q2f0 := fun z : WIn (fun w' => Below w1.heap.size w1 w') => (HBX.out _ _ _ _ _ _ (HG1.out.below z.ok)).cell 0 _ rfl
  have q2f1 := fun z : WIn (fun w' => Below w1.heap.size w1 w') => (HBX.out _ _ _ _ _ _ (HG1.out.below z.ok)).cell 1 _ rfl
  have q2f2 := fun z : WIn (fun w' => Below w1.heap.size w1 w') => (HBX.out _ _ _ _ _ _ (HG1.out.below z.ok)).cell 2 _ rfl
  have q2f3 := fun z : WIn (fun w' => Below w1.heap.size w1 w') => (HBX.out _ _ _ _ _ _ (HG1.out.below z.ok)).cell 3 _ rfl
  have q2f4 := fun z : WIn (fun w' => Below w1.heap.size w1 w') => (HBX.out _ _ _ _ _ _ (HG1.out.below z.ok)).cell 4 _ rfl
  have ne2 : Nonempty (WIn (fun w' => Below w1.heap.size w1 w')) := ⟨⟨w1, Below.refl _ _⟩⟩
  refine wp_region_three (C := fun w' => ∃ z : WIn (fun w' => Below w1.heap.size w1 w'), w' = z.w) 13 (by kernel_rfl) (by kernel_rfl) rfl rfl ⟨⟨w1.drew, (Below.refl _ _).drew⟩, rfl⟩ ?_
  simp only [List.take_succ_cons, List.take_zero, List.drop_succ_cons, List.drop_zero]
  repeat (go_big_quiet_step (first | (go_at_call 31; refine (pick_any (HG1.out.below (WIn.ok _)) (by omega) x HX.out).mono ?_; rw [HP.out]; rintro e w' ⟨rfl, rfl⟩; exact ⟨rfl, _, rfl⟩) | (go_at_call 36; refine (text_any (HG1.out.below (WIn.ok _)) (by omega) 6 x y HY.out (.slice au la.length cu) la HU.out (.slice av lb.length cv) lb HV.out).mono ?_; rw [HTX.out]; rintro e w' ⟨rfl, hb⟩; exact ⟨rfl, ⟨w', bnext (WIn.ok _) hb⟩, rfl⟩)))
  refine wpQuiet_nil ?_
  rintro w2a ⟨⟨w2, ok2⟩, rfl⟩
  go_simp
  refine (gopen (HG1.out.below ok2) s HU.out (by have := (HG1.out.below ok2).text (q := (.slice av lb.length cv, lb)) HV.out y HY.out.1; rw [HTX.out] at this; exact this) (HSH.out.find _)).mono ?_
  rw [HUN.out]
  rintro e w3 ⟨v3, rfl, rd3, hb3⟩
  have HG3 : Hid (Game W w3 pb b r S S hs ts [] bs) := HG1.out.below (bnext ok2 hb3)
  have RD3 : Hid (Rd w3 v3 ol) := rd3
  clear hb3 rd3
  dsimp only
  go_simp
  repeat (go_big_quiet_step (fail))
  refine wpQuiet_nil ?_
  clear q2a q2f0 q2f1 q2f2 q2f3 q2f4 ne2 ok2
  go_upto_region 35 with fail
  have q4a := fun z : WIn (fun w' => Below w3.heap.size w3 w') => (HG3.out.below z.ok).cells.2
  have q4f0 := fun z : WIn (fun w' => Below w3.heap.size w3 w') => (HBX.out _ _ _ _ _ _ (HG3.out.below z.ok)).cell 0 _ rfl
  have q4f1 := fun z : WIn (fun w' => Below w3.heap.size w3 w') => (HBX.out _ _ _ _ _ _ (HG3.out.below z.ok)).cell 1 _ rfl
  have q4f2 := fun z : WIn (fun w' => Below w3.heap.size w3 w') => (HBX.out _ _ _ _ _ _ (HG3.out.below z.ok)).cell 2 _ rfl
  have q4f3 := fun z : WIn (fun w' => Below w3.heap.size w3 w') => (HBX.out _ _ _ _ _ _ (HG3.out.below z.ok)).cell 3 _ rfl
  have q4f4 := fun z : WIn (fun w' => Below w3.heap.size w3 w') => (HBX.out _ _ _ _ _ _ (HG3.out.below z.ok)).cell 4 _ rfl
  have ne4 : Nonempty (WIn (fun w' => Below w3.heap.size w3 w')) := ⟨⟨w3, Below.refl _ _⟩⟩
  refine wp_region_three (C := fun w' => ∃ z : WIn (fun w' => Below w3.heap.size w3 w'), w' = z.w) 13 (by kernel_rfl) (by kernel_rfl) rfl rfl ⟨⟨w3.drew, (Below.refl _ _).drew⟩, rfl⟩ ?_
  simp only [List.take_succ_cons, List.take_zero, List.drop_succ_cons, List.drop_zero]
  repeat (go_big_quiet_step (first | (go_at_call 31; refine (pick_any (HG3.out.below (WIn.ok _)) (by omega) x HX.out).mono ?_; rw [HP.out]; rintro e w' ⟨rfl, rfl⟩; exact ⟨rfl, _, rfl⟩) | (go_at_call 36; refine (text_any (HG3.out.below (WIn.ok _)) (by omega) 6 x y HY.out (.slice au la.length cu) la HU.out (.slice av lb.length cv) lb HV.out).mono ?_; rw [HTX.out]; rintro e w' ⟨rfl, hb⟩; exact ⟨rfl, ⟨w', bnext (WIn.ok _) hb⟩, rfl⟩)))
  refine wpQuiet_nil ?_
  rintro w4a ⟨⟨w4, ok4⟩, rfl⟩
  go_simp
  refine (mopen (HG3.out.below ok4) s HU.out (by have := (HG3.out.below ok4).text (q := (.slice av lb.length cv, lb)) HV.out y HY.out.1; rw [HTX.out] at this; exact this)).mono ?_
  rw [HUN.out]
  rintro e w5 ⟨v5, rfl, rd5, hb5⟩
  have HG5 : Hid (Game W w5 pb b r S S hs ts [] bs) := HG3.out.below (bnext ok4 hb5)
  have RD5 : Hid (Rd w5 v5 ol) := rd5
  have RX5 : Hid (Rd w5 v3 ol) := RD3.out.below (bnext ok4 hb5)
  clear hb5 rd5
  dsimp only
  go_simp
  repeat (go_big_quiet_step (fail))
  refine wpQuiet_nil ?_
  clear q4a q4f0 q4f1 q4f2 q4f3 q4f4 ne4 ok4
  go_wp2_with (go_at_call 15; go_must (refine (same_any _ _ ol ol w5 RX5.out RD5.out).mono ?_; rw [decide_eq_true (rfl : ol = ol)]; rintro e w6 ⟨rfl, hb6⟩))
  go_ret
  exact ⟨by simp, S, hs, ts, (HG5.out.below hb6).unbox, HFI.out, HSH.out, by omega, by omega, by omega⟩
end
end Go.Proofs.Ytcacioogklgahaa
