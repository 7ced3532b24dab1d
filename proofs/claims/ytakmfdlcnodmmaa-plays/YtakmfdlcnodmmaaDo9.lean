/-
  A call of no kind.
-/
import Derived.Test.YtakmfdlcnodmmaaDoBase
namespace Go.Proofs.Ytakmfdlcnodmmaa
set_option linter.unusedVariables false
open Go.RowKit Go.Maps

set_option maxHeartbeats 4000000 in
set_option maxRecDepth 20000 in
theorem do_other (W w : World) (pb b r : Nat) (S : St) (hs : List Int) (ts : List (Value × List Int)) (h : Game W w pb b r S S hs ts [] []) (hf : Fine S) (hsh : Short S) (hN : S.rows.length + 3 ≤ 100000) (hH : hs.length + 3 ≤ 100000) (hT : ts.length + 2 ≤ 100000)
    (k x y : Int) (hk : k < 0 ∨ 8 < k) (hx : U64 x) (hy : U64 y) (u v : Value) (la lb : List Int) (hu : Rd W u la) (hv : Rd W v lb) (hla : la.length ≤ 300) (hlb : lb.length ≤ 1500) :
    Calls Try.prog 12 #[ptr pb, .agg #[.int .i64 k, .int .u64 x, .int .u64 y, u, v]] w fun e w' => e = .returned (.bool true) ∧ Step W w' pb b r S hs ts := by
  have h1 := h.boxed [.int .i64 k, .int .u64 x, .int .u64 y, u, v]
  have HU : Hid (Rd W u la) := hu
  have HV : Hid (Rd W v lb) := hv
  obtain ⟨au, cu, rfl⟩ := hu.len
  obtain ⟨av, cv, rfl⟩ := hv.len
  have hgood := h.goods.1
  have HHU : Hid (∀ z ∈ hs, U64 z) := h.hU
  have HX : Hid (U64 x) := hx
  have HY : Hid (U64 y) := hy
  have HFI : Hid (Fine S) := hf
  have HSH : Hid (Short S) := hsh
  have k0 : (k == 0) = false := by simp; omega
  have k1 : (k == 1) = false := by simp; omega
  have k2 : (k == 2) = false := by simp; omega
  have k3 : (k == 3) = false := by simp; omega
  have k4 : (k == 4) = false := by simp; omega
  have k5 : (k == 5) = false := by simp; omega
  have k6 : (k == 6) = false := by simp; omega
  have k7 : (k == 7) = false := by simp; omega
  have k8 : (k == 8) = false := by simp; omega
  clear h hf hsh hgood hu hv hx hy
  obtain ⟨w1, hw1⟩ : ∃ w1, w1 = w.alloc (.cells #[.int .i64 k, .int .u64 x, .int .u64 y, .slice au la.length cu, .slice av lb.length cv] 40) := ⟨_, rfl⟩
  rw [show (List.toArray [Value.int .i64 k, .int .u64 x, .int .u64 y, .slice au la.length cu, .slice av lb.length cv]) = #[.int .i64 k, .int .u64 x, .int .u64 y, .slice au la.length cu, .slice av lb.length cv] from rfl, ← hw1] at h1
  have x0 := (h1.box (List.mem_cons_self)).cell 0 _ rfl
  obtain ⟨p0, p1⟩ := h1.cells
  obtain ⟨bs, hbs⟩ : ∃ bs : List (Nat × List Value), bs = [(w.heap.size, [.int .i64 k, .int .u64 x, .int .u64 y, .slice au la.length cu, .slice av lb.length cv])] := ⟨_, rfl⟩
  rw [← hbs] at h1
  have HBX : Hid (∀ w' S T hs ts xs, Game W w' pb b r S T hs ts xs bs → Blk w' w.heap.size 40 [.int .i64 k, .int .u64 x, .int .u64 y, .slice au la.length cu, .slice av lb.length cv]) := fun w' S T hs ts xs hG => by
    rw [hbs] at hG
    exact hG.box (List.mem_cons_self)
  have HG1 : Hid (Game W w1 pb b r S S hs ts [] bs) := h1
  clear h1 hbs
  dsimp only at x0
  go_enter Try.func12, Try.ntmps12
  go_upto_region 1 with fail
  rw [← hw1]
  generalize w.heap.size = nb at x0 HBX ⊢
  clear hw1
  go_wp2
  go_ret
  exact ⟨by simp, S, hs, ts, HG1.out.unbox, HFI.out, HSH.out, by omega, by omega, by omega⟩
end Go.Proofs.Ytakmfdlcnodmmaa
