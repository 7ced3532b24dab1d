/-
  A call of Pair, by both.
-/
import Derived.Test.YtakmfdlcnodmmaaDoBase
namespace Go.Proofs.Ytakmfdlcnodmmaa
set_option linter.unusedVariables false
open Go.RowKit Go.Maps

set_option maxHeartbeats 4000000 in
set_option maxRecDepth 20000 in
theorem do_pair (W w : World) (pb b r : Nat) (S : St) (hs : List Int) (ts : List (Value × List Int)) (h : Game W w pb b r S S hs ts [] []) (hf : Fine S) (hsh : Short S) (hN : S.rows.length + 3 ≤ 100000) (hH : hs.length + 3 ≤ 100000) (hT : ts.length + 2 ≤ 100000)
    (x y : Int) (hx : U64 x) (hy : U64 y) (u v : Value) (la lb : List Int) (hu : Rd W u la) (hv : Rd W v lb) (hla : la.length ≤ 300) (hlb : lb.length ≤ 1500) :
    Calls Try.prog 12 #[ptr pb, .agg #[.int .i64 2, .int .u64 x, .int .u64 y, u, v]] w fun e w' => e = .returned (.bool true) ∧ Step W w' pb b r S hs ts := by
  have h1 := h.boxed [.int .i64 2, .int .u64 x, .int .u64 y, u, v]
  have HU : Hid (Rd W u la) := hu
  have HV : Hid (Rd W v lb) := hv
  obtain ⟨au, cu, rfl⟩ := hu.len
  obtain ⟨av, cv, rfl⟩ := hv.len
  have hgood := h.goods.1
  have HHU : Hid (∀ z ∈ hs, U64 z) := h.hU
  have HX : Hid (U64 x) := hx
  have HY : Hid (U64 y) := hy
  have HFI : Hid (Fine S) := hf
  have HSH : Hid (Short S) := hsh
  obtain ⟨f, hfr⟩ : ∃ f, S.fresh = f := ⟨_, rfl⟩
  obtain ⟨g, hgr⟩ : ∃ g, (S.put .secret).fresh = g := ⟨_, rfl⟩
  have HF : Hid (S.fresh = f) := hfr
  have HGF : Hid ((S.put .secret).fresh = g) := hgr
  have hfU := (fresh_ok hgood (by omega)).2.2.1
  have hgU := (fresh_ok (put_good hgood (by omega) (x := .secret) trivial) (by rw [put_len]; omega)).2.2.1
  rw [hfr] at hfU
  rw [hgr] at hgU
  have HR : Hid (Fine S.pair ∧ Short S.pair) := ⟨hf.pair hgood (by omega), (hsh.put (x := .secret) (fun _ _ _ e => by cases e)).put (fun _ _ _ e => by cases e)⟩
  have hpl := pair_len S
  have ht1 := toldOf_len hs f
  have ht2 := toldOf_len (toldOf hs f) g
  clear hfr hgr
  clear h hf hsh hgood hu hv hx hy
  obtain ⟨w1, hw1⟩ : ∃ w1, w1 = w.alloc (.cells #[.int .i64 2, .int .u64 x, .int .u64 y, .slice au la.length cu, .slice av lb.length cv] 40) := ⟨_, rfl⟩
  rw [show (List.toArray [Value.int .i64 2, .int .u64 x, .int .u64 y, .slice au la.length cu, .slice av lb.length cv]) = #[.int .i64 2, .int .u64 x, .int .u64 y, .slice au la.length cu, .slice av lb.length cv] from rfl, ← hw1] at h1
  have x0 := (h1.box (List.mem_cons_self)).cell 0 _ rfl
  obtain ⟨p0, p1⟩ := h1.cells
  obtain ⟨bs, hbs⟩ : ∃ bs : List (Nat × List Value), bs = [(w.heap.size, [.int .i64 2, .int .u64 x, .int .u64 y, .slice au la.length cu, .slice av lb.length cv])] := ⟨_, rfl⟩
  rw [← hbs] at h1
  have HBX : Hid (∀ w' S T hs ts xs, Game W w' pb b r S T hs ts xs bs → Blk w' w.heap.size 40 [.int .i64 2, .int .u64 x, .int .u64 y, .slice au la.length cu, .slice av lb.length cv]) := fun w' S T hs ts xs hG => by
    rw [hbs] at hG
    exact hG.box (List.mem_cons_self)
  have HG1 : Hid (Game W w1 pb b r S S hs ts [] bs) := h1
  clear h1 hbs
  dsimp only at x0
  go_enter Try.func12, Try.ntmps12
  go_upto_region 1 with fail
  rw [← hw1]
  generalize w.heap.size = nb at x0 HBX ⊢
  clear hw1
  go_wp2_with (first
    | (go_at_call 21; go_must (refine (gpair HG1.out (by omega)).mono ?_; rw [HF.out, HGF.out]; rintro e w2 ⟨rfl, g2⟩; have HG2 : Hid (Game W w2 pb b r S.pair S hs ts [] bs) := g2; have p2 := g2.cells.2; clear g2 HG1))
    | (go_at_call 30; go_must (refine (mpair HG2.out (by omega)).mono ?_; rw [HF.out, HGF.out]; rintro e w3 ⟨rfl, g3⟩; have HG3 : Hid (Game W w3 pb b r S.pair S.pair hs ts [] bs) := g3; clear g3 HG2))
    | (go_at_call 28; go_must (first
      | (refine (told_any HG3.out (by omega) f hfU).mono ?_; rintro e w4 ⟨rfl, g4⟩; have HG4 : Hid (Game W w4 pb b r S.pair S.pair (toldOf hs f) ts [] bs) := g4; clear g4 HG3)
      | (refine (told_any HG4.out (by omega) g hgU).mono ?_; rintro e w5 ⟨rfl, g5⟩))))
  go_ret
  exact ⟨by simp, S.pair, toldOf (toldOf hs f) g, ts, g5.unbox, HR.out.1, HR.out.2, by omega, by omega, by omega⟩
end Go.Proofs.Ytakmfdlcnodmmaa
