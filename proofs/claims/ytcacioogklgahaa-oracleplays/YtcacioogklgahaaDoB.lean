/-
  A call of Sign, by both.
  A call of Verify, by both.
-/
import Derived.Test.YtcacioogklgahaaDoBase
import Derived.Deep.RegionWith
namespace Go.Proofs.Ytcacioogklgahaa
section
set_option linter.unusedVariables false
set_option synthInstance.maxSize 20000
open Classical
open Go.RowKit Go.Maps

theorem short_sign {S : St} (h : Short S) (s : Int) (l : List Int) : Short (S.sign s l).2 := by
  unfold St.sign
  split
  · exact h.get (fun _ _ _ e => by cases e)
  · exact h
theorem sign_U64 {S : St} (hg : Good S) (hN : S.rows.length < 1000000000) (s : Int) {l : List Int} (hl : Oct l) : U64 (S.sign s l).1.1 := by
  unfold St.sign
  split
  · rename_i h
    exact (get_ne hg hN (x := .sig s l) ⟨(at_ok hg h).1, hl⟩).2
  · show U64 0
    unfold U64
    omega

set_option maxHeartbeats 4000000 in
set_option maxRecDepth 20000 in
theorem do_sign (W w : World) (pb b r : Nat) (S : St) (hs : List Int) (ts : List (Value × List Int)) (h : Game W w pb b r S S hs ts [] []) (hf : Fine S) (hsh : Short S) (hN : S.rows.length + 3 ≤ 100000) (hH : hs.length + 3 ≤ 100000) (hT : ts.length + 2 ≤ 100000)
    (x y : Int) (hx : U64 x) (hy : U64 y) (u v : Value) (la lb : List Int) (hu : Rd W u la) (hv : Rd W v lb) (hla : la.length ≤ 300) (hlb : lb.length ≤ 1500) :
    Calls Try.prog 12 #[ptr pb, .agg #[.int .i64 3, .int .u64 x, .int .u64 y, u, v]] w fun e w' => e = .returned (.bool true) ∧ Step W w' pb b r S hs ts := by
  have h1 := h.boxed [.int .i64 3, .int .u64 x, .int .u64 y, u, v]
  have HU : Hid (Rd W u la) := hu
  have HV : Hid (Rd W v lb) := hv
  obtain ⟨au, cu, rfl⟩ := hu.len
  obtain ⟨av, cv, rfl⟩ := hv.len
  have hgood := h.goods.1
  have HHU : Hid (∀ z ∈ hs, U64 z) := h.hU
  have HX : Hid (U64 x) := hx
  have HY : Hid (U64 y) := hy
  have HFI : Hid (Fine S) := hf
  have HSH : Hid (Short S) := hsh
  obtain ⟨s, hsv⟩ : ∃ z, pickOf hs x = z := ⟨_, rfl⟩
  have HP : Hid (pickOf hs x = s) := hsv
  have hsU : U64 s := by rw [← hsv]; exact pick_U64 HHU.out HX.out
  have HSU : Hid (U64 s) := hsU
  obtain ⟨g, ek, S1, hsg⟩ : ∃ g ek S1, S.sign s la = ((g, ek), S1) := ⟨_, _, _, rfl⟩
  have HSG : Hid (S.sign s la = ((g, ek), S1)) := hsg
  have hF1 : Fine S1 := by have := hf.sign hgood (by omega) s la; rw [hsg] at this; exact this
  have hS1 : Short S1 := by have := short_sign hsh s la; rw [hsg] at this; exact this
  have hl1 : S1.rows.length ≤ S.rows.length + 1 := by have := sign_len S s la; rw [hsg] at this; exact this
  have hgU : U64 g := by have := sign_U64 hgood (by omega) s hu.oct; rw [hsg] at this; exact this
  have HR : Hid (Fine S1 ∧ Short S1 ∧ U64 g) := ⟨hF1, hS1, hgU⟩
  clear hsv hsU hsg hF1 hS1 hgU
  clear h hf hsh hgood hu hv hx hy
  obtain ⟨w1, hw1⟩ : ∃ w1, w1 = w.alloc (.cells #[.int .i64 3, .int .u64 x, .int .u64 y, .slice au la.length cu, .slice av lb.length cv] 40) := ⟨_, rfl⟩
  rw [show (List.toArray [Value.int .i64 3, .int .u64 x, .int .u64 y, .slice au la.length cu, .slice av lb.length cv]) = #[.int .i64 3, .int .u64 x, .int .u64 y, .slice au la.length cu, .slice av lb.length cv] from rfl, ← hw1] at h1
  have x0 := (h1.box (List.mem_cons_self)).cell 0 _ rfl
  obtain ⟨p0, p1⟩ := h1.cells
  obtain ⟨bs, hbs⟩ : ∃ bs : List (Nat × List Value), bs = [(w.heap.size, [.int .i64 3, .int .u64 x, .int .u64 y, .slice au la.length cu, .slice av lb.length cv])] := ⟨_, rfl⟩
  rw [← hbs] at h1
  have HBX : Hid (∀ w' S T hs ts xs, Game W w' pb b r S T hs ts xs bs → Blk w' w.heap.size 40 [.int .i64 3, .int .u64 x, .int .u64 y, .slice au la.length cu, .slice av lb.length cv]) := fun w' S T hs ts xs hG => by
    rw [hbs] at hG
    exact hG.box (List.mem_cons_self)
  have HG1 : Hid (Game W w1 pb b r S S hs ts [] bs) := h1
  clear h1 hbs
  dsimp only at x0
  go_enter Try.func12, Try.ntmps12
  go_upto_region 1 with fail
  rw [← hw1]
  generalize w.heap.size = nb at x0 HBX ⊢
  clear hw1
  go_upto_region 17 with fail
  have q2a := fun z : WIn (fun w' => Below w1.heap.size w1 w') => (HG1.out.below z.ok).cells.1
  have q2b := fun z : WIn (fun w' => Below w1.heap.size w1 w') => (HBX.out _ _ _ _ _ _ (HG1.out.below z.ok)).cell 1 _ rfl
  have q2c := fun z : WIn (fun w' => Below w1.heap.size w1 w') => (HBX.out _ _ _ _ _ _ (HG1.out.below z.ok)).cell 3 _ rfl
  have ne2 : Nonempty (WIn (fun w' => Below w1.heap.size w1 w')) := ⟨⟨w1, Below.refl _ _⟩⟩
  refine wp_region_three (C := fun w' => ∃ z : WIn (fun w' => Below w1.heap.size w1 w'), w' = z.w) 10 (by kernel_rfl) (by kernel_rfl) rfl rfl ⟨⟨w1.drew, (Below.refl _ _).drew⟩, rfl⟩ ?_
  simp only [List.take_succ_cons, List.take_zero, List.drop_succ_cons, List.drop_zero]
  repeat (go_big_quiet_step ((go_at_call 31; refine (pick_any (HG1.out.below (WIn.ok _)) (by omega) x HX.out).mono ?_; rw [HP.out]; rintro e w' ⟨rfl, rfl⟩; exact ⟨rfl, _, rfl⟩)))
  refine wpQuiet_nil ?_
  rintro w2a ⟨⟨w2, ok2⟩, rfl⟩
  go_simp
  refine (gsign (HG1.out.below ok2) (by omega) HSU.out HU.out (by omega)).mono ?_
  rw [HSG.out]
  rintro e w3 ⟨rfl, g3⟩
  have HG3 : Hid (Game W w3 pb b r S1 S hs ts [] bs) := g3
  clear g3
  dsimp only
  go_simp
  repeat (go_big_quiet_step (fail))
  refine wpQuiet_nil ?_
  clear q2a q2b q2c ne2 ok2
  go_upto_region 18 with fail
  have q4a := fun z : WIn (fun w' => Below w3.heap.size w3 w') => (HG3.out.below z.ok).cells.2
  have q4b := fun z : WIn (fun w' => Below w3.heap.size w3 w') => (HBX.out _ _ _ _ _ _ (HG3.out.below z.ok)).cell 1 _ rfl
  have q4c := fun z : WIn (fun w' => Below w3.heap.size w3 w') => (HBX.out _ _ _ _ _ _ (HG3.out.below z.ok)).cell 3 _ rfl
  have ne4 : Nonempty (WIn (fun w' => Below w3.heap.size w3 w')) := ⟨⟨w3, Below.refl _ _⟩⟩
  refine wp_region_three (C := fun w' => ∃ z : WIn (fun w' => Below w3.heap.size w3 w'), w' = z.w) 10 (by kernel_rfl) (by kernel_rfl) rfl rfl ⟨⟨w3.drew, (Below.refl _ _).drew⟩, rfl⟩ ?_
  simp only [List.take_succ_cons, List.take_zero, List.drop_succ_cons, List.drop_zero]
  repeat (go_big_quiet_step ((go_at_call 31; refine (pick_any (HG3.out.below (WIn.ok _)) (by omega) x HX.out).mono ?_; rw [HP.out]; rintro e w' ⟨rfl, rfl⟩; exact ⟨rfl, _, rfl⟩)))
  refine wpQuiet_nil ?_
  rintro w4a ⟨⟨w4, ok4⟩, rfl⟩
  go_simp
  refine (msign (HG3.out.below ok4) (by omega) s HU.out).mono ?_
  rw [HSG.out]
  rintro e w5 ⟨rfl, g5⟩
  have HG5 : Hid (Game W w5 pb b r S1 S1 hs ts [] bs) := g5
  clear g5
  dsimp only
  go_simp
  repeat (go_big_quiet_step (fail))
  refine wpQuiet_nil ?_
  clear q4a q4b q4c ne4 ok4
  go_wp2_with (go_at_call 28; go_must (refine (told_any HG5.out (by omega) g HR.out.2.2).mono ?_; rintro e w6 ⟨rfl, g6⟩))
  go_ret
  refine ⟨by simp, S1, toldOf hs g, ts, g6.unbox, HR.out.1, HR.out.2.1, by omega, ?_, by omega⟩
  have := toldOf_len hs g
  omega
end

section
set_option linter.unusedVariables false
set_option synthInstance.maxSize 20000
open Classical
open Go.RowKit Go.Maps

theorem wp_region_cls {P : Program} {C : World → Prop} {id : Nat} {Q : Exit → Act → World → Prop} {a : Act} {w : World} {l : List Oper} (hm : P.follows .mixedOrders = true) (hB : Region.lexB .any l.toArray = true) (hC : C { w with drawn := w.drawn + 1 })
    (h : wpQuiet P l.toArray C (fun a' => ∀ w', C w' → Q .normal a' w') l a) : (Code.region id l.toArray true).wp P Q a w := wp_region_quiet hm hB hC (by simpa using h)

set_option maxHeartbeats 4000000 in
set_option maxRecDepth 20000 in
theorem do_verify (W w : World) (pb b r : Nat) (S : St) (hs : List Int) (ts : List (Value × List Int)) (h : Game W w pb b r S S hs ts [] []) (hf : Fine S) (hsh : Short S) (hN : S.rows.length + 3 ≤ 100000) (hH : hs.length + 3 ≤ 100000) (hT : ts.length + 2 ≤ 100000)
    (x y : Int) (hx : U64 x) (hy : U64 y) (u v : Value) (la lb : List Int) (hu : Rd W u la) (hv : Rd W v lb) (hla : la.length ≤ 300) (hlb : lb.length ≤ 1500) :
    Calls Try.prog 12 #[ptr pb, .agg #[.int .i64 4, .int .u64 x, .int .u64 y, u, v]] w fun e w' => e = .returned (.bool true) ∧ Step W w' pb b r S hs ts := by
  have h1 := h.boxed [.int .i64 4, .int .u64 x, .int .u64 y, u, v]
  have HU : Hid (Rd W u la) := hu
  have HV : Hid (Rd W v lb) := hv
  obtain ⟨au, cu, rfl⟩ := hu.len
  obtain ⟨av, cv, rfl⟩ := hv.len
  have hgood := h.goods.1
  have HHU : Hid (∀ z ∈ hs, U64 z) := h.hU
  have HX : Hid (U64 x) := hx
  have HY : Hid (U64 y) := hy
  have HFI : Hid (Fine S) := hf
  have HSH : Hid (Short S) := hsh
  obtain ⟨s, hsv⟩ : ∃ z, pickOf hs x = z := ⟨_, rfl⟩
  have HP : Hid (pickOf hs x = s) := hsv
  have hsU : U64 s := by rw [← hsv]; exact pick_U64 HHU.out HX.out
  have HSU : Hid (U64 s) := hsU
  obtain ⟨t, htv⟩ : ∃ z, pickOf hs y = z := ⟨_, rfl⟩
  have HQ : Hid (pickOf hs y = t) := htv
  have htU : U64 t := by rw [← htv]; exact pick_U64 HHU.out HY.out
  have HTU : Hid (U64 t) := htU
  obtain ⟨bb, hbb⟩ : ∃ bb, S.verify s la t = bb := ⟨_, rfl⟩
  have HBB : Hid (S.verify s la t = bb) := hbb
  clear hsv hsU htv htU hbb
  clear h hf hsh hgood hu hv hx hy
  obtain ⟨w1, hw1⟩ : ∃ w1, w1 = w.alloc (.cells #[.int .i64 4, .int .u64 x, .int .u64 y, .slice au la.length cu, .slice av lb.length cv] 40) := ⟨_, rfl⟩
  rw [show (List.toArray [Value.int .i64 4, .int .u64 x, .int .u64 y, .slice au la.length cu, .slice av lb.length cv]) = #[.int .i64 4, .int .u64 x, .int .u64 y, .slice au la.length cu, .slice av lb.length cv] from rfl, ← hw1] at h1
  have x0 := (h1.box (List.mem_cons_self)).cell 0 _ rfl
  obtain ⟨p0, p1⟩ := h1.cells
  obtain ⟨bs, hbs⟩ : ∃ bs : List (Nat × List Value), bs = [(w.heap.size, [.int .i64 4, .int .u64 x, .int .u64 y, .slice au la.length cu, .slice av lb.length cv])] := ⟨_, rfl⟩
  rw [← hbs] at h1
  have HBX : Hid (∀ w' S T hs ts xs, Game W w' pb b r S T hs ts xs bs → Blk w' w.heap.size 40 [.int .i64 4, .int .u64 x, .int .u64 y, .slice au la.length cu, .slice av lb.length cv]) := fun w' S T hs ts xs hG => by
    rw [hbs] at hG
    exact hG.box (List.mem_cons_self)
  have HG1 : Hid (Game W w1 pb b r S S hs ts [] bs) := h1
  clear h1 hbs
  dsimp only at x0
  go_enter Try.func12, Try.ntmps12
  go_upto_region 1 with fail
  rw [← hw1]
  generalize w.heap.size = nb at x0 HBX ⊢
  clear hw1
  go_upto_region 22 with fail
  have qa := fun z : WIn (fun w' => Below w1.heap.size w1 w') => (HG1.out.below z.ok).cells.1
  have qb := fun z : WIn (fun w' => Below w1.heap.size w1 w') => (HG1.out.below z.ok).cells.2
  have qc := fun z : WIn (fun w' => Below w1.heap.size w1 w') => (HBX.out _ _ _ _ _ _ (HG1.out.below z.ok)).cell 1 _ rfl
  have qd := fun z : WIn (fun w' => Below w1.heap.size w1 w') => (HBX.out _ _ _ _ _ _ (HG1.out.below z.ok)).cell 2 _ rfl
  have qe := fun z : WIn (fun w' => Below w1.heap.size w1 w') => (HBX.out _ _ _ _ _ _ (HG1.out.below z.ok)).cell 3 _ rfl
  have ne2 : Nonempty (WIn (fun w' => Below w1.heap.size w1 w')) := ⟨⟨w1, Below.refl _ _⟩⟩
  refine wp_region_cls (C := fun w' => ∃ z : WIn (fun w' => Below w1.heap.size w1 w'), w' = z.w) (by kernel_rfl) (by kernel_rfl) ⟨⟨w1.drew, (Below.refl _ _).drew⟩, rfl⟩ ?_
  repeat (go_big_quiet_step (first
    | (go_at_call_of 31 (Value.int IntKind.u64 x); refine (pick_any (HG1.out.below (WIn.ok _)) (by omega) x HX.out).mono ?_; rw [HP.out]; rintro e w' ⟨rfl, rfl⟩; exact ⟨rfl, _, rfl⟩)
    | (go_at_call_of 31 (Value.int IntKind.u64 y); refine (pick_any (HG1.out.below (WIn.ok _)) (by omega) y HY.out).mono ?_; rw [HQ.out]; rintro e w' ⟨rfl, rfl⟩; exact ⟨rfl, _, rfl⟩)
    | (go_at_call 23; refine (gverify (HG1.out.below (WIn.ok _)) HSU.out HU.out (by omega) t).mono ?_; rw [HBB.out]; rintro e w' ⟨rfl, hb⟩; exact ⟨rfl, ⟨w', bnext (WIn.ok _) hb⟩, rfl⟩)
    | (go_at_call 33; refine (mverify (HG1.out.below (WIn.ok _)) HFI.out s HU.out t).mono ?_; rw [HBB.out]; rintro e w' ⟨rfl, hb⟩; exact ⟨rfl, ⟨w', bnext (WIn.ok _) hb⟩, rfl⟩)))
  refine wpQuiet_nil ?_
  rintro w2a ⟨⟨w2, ok2⟩, rfl⟩
  clear qa qb qc qd qe ne2
  go_wp2
  go_ret
  exact ⟨by simp, S, hs, ts, (HG1.out.below ok2).unbox, HFI.out, HSH.out, by omega, by omega, by omega⟩
end
end Go.Proofs.Ytcacioogklgahaa
