/-
  A stamp that is taken from a reader, by the program and by the reference.
-/
import Derived.Test.YtiebbglknmcnpaaClock
import Derived.Test.YtiebbglknmcnpaaReader
namespace Go.Proofs.Ytiebbglknmcnpaa
set_option linter.unusedVariables false
open Go.RowKit

theorem results_cell1 {fn : Func} {p : Tmp} {ty : TypeId} (h : fn.results = #[.cell p ty]) (tmps : Array Value) (P : Program) (w : World) :
    (results fn tmps).run P w = ((asAddr (tmps.getD p undef)).run P w).andThen fun a w₁ => (loadVar ty a).run P w₁ := by
  simp only [results, h]
  simp [Sem.run_bind, Result.andThen]

/-- What taking a stamp makes of a reader. -/
def gotS (l : List Int) (k : Int) : S × List Int × Int :=
  ((zag (rNum l k).1, (rCount (rNum l k).2.1 (rNum l k).2.2 7).1), (rCount (rNum l k).2.1 (rNum l k).2.2 7).2.1, (rCount (rNum l k).2.1 (rNum l k).2.2 7).2.2)

/-- Bytes stay while a stamp's block is written: they lie in no such block. -/
theorem Rd.pastS {w w' : World} {v : Value} {l : List Int} {c : Nat} {e : TypeId} {x y : Int} (h : Rd w v l) (hX : Blk w c e [.int .i64 x, .int .i64 y]) (hg : w.grownBy w' (some c)) : Rd w' v l := by
  obtain ⟨ho, a, cap, rfl, h1, h2, h3, h4⟩ := h
  refine ⟨ho, a, cap, rfl, h1, h2, h3, fun hp => ?_⟩
  obtain ⟨d, off, rfl, hc⟩ := h4 hp
  refine ⟨d, off, rfl, fun j hj => hg.cell (hc j hj) fun e => ?_⟩
  obtain rfl : d = c := by simpa using e
  have hcj := hc j hj
  rcases Nat.lt_trichotomy (off + j) 1 with h | h | h
  · rw [show off + j = 0 by omega, hX.cell 0 _ rfl] at hcj; cases hcj
  · rw [h, hX.cell 1 _ rfl] at hcj; cases hcj
  · have hn : w.cell? ⟨d, off + j, none⟩ = none := by
      unfold Blk at hX
      simp [World.cell?, hX]
      omega
    rw [hn] at hcj
    cases hcj
theorem Rdr.pastS {w w' : World} {b c : Nat} {l : List Int} {k : Int} {e : TypeId} {x y : Int} (h : Rdr w b l k) (hX : Blk w c e [.int .i64 x, .int .i64 y]) (hg : w.grownBy w' (some c)) (hb : b ≠ c) : Rdr w' b l k := by
  obtain ⟨v, hv, hrd⟩ := h.left
  have hbl : w'.heap[b]? = w.heap[b]? := hg.block b (World.block_lt_of_cell? w _ hv) (fun e => hb (Option.some.inj e))
  exact ⟨⟨v, (World.cell?_of_block hbl).trans hv, hrd.pastS hX hg⟩, (World.cell?_of_block hbl).trans h.wrong, (World.frozen?_of_block hbl).trans h.f0, (World.frozen?_of_block hbl).trans h.f1, fun o ho => (World.cell?_of_block hbl).trans (h.two o ho), h.gone⟩
theorem stored {w w1 w2 : World} {b : Nat} {o : Obj} {u0 u1 : Value} (hlt : b < w.heap.size) (hg1 : (w.alloc o).grownBy w1 (some b)) (hg2 : w1.grownBy w2 (some b)) : w.grownBy ((w2.setCell ⟨w.heap.size, 0, none⟩ u0).setCell ⟨w.heap.size, 1, none⟩ u1) (some b) := by
  have h := grown_trans (grown_none (World.grownBy_alloc w o none) hg1) hg2 (fun k hk => .inl hk)
  refine grown_trans (grown_trans h (grown_setCell _ _ _ _) (fun k hk => .inr (by have := Option.some.inj hk; omega))) (grown_setCell _ _ _ _) (fun k hk => .inr (by have := Option.some.inj hk; omega))

set_option maxHeartbeats 400000 in
theorem get_any (w : World) (b : Nat) (l : List Int) (k : Int) (h : Rdr w b l k) :
    Calls Try.prog 68 #[ptr b] w fun e w' => e = .returned (sv (gotS l k).1) ∧ Rdr w' b (gotS l k).2.1 (gotS l k).2.2 ∧ w.grownBy w' (some b) := by
  have H : Hid (Rdr w b l k) := h
  have hlt := h.lt
  clear h
  go_enter Try.func68, Try.ntmps68
  go_wp2_with (first
    | (go_at_call 70; go_must (refine (rint_any _ b l k (H.out.kept (World.grownBy_alloc w _ none))).mono ?_; rintro e w1 ⟨rfl, hr1, hg1⟩))
    | (go_at_call 66; refine (rcount_any _ b _ _ 7 hr1 (by omega)).mono ?_; rintro e w2 ⟨rfl, hr2, hg2⟩
       have X := (blk_new w [.int .i64 0, .int .i64 0] 25).block (hg1.block _ (by simp) (fun e => by have := Option.some.inj e; omega))
       have Y := X.block (hg2.block _ X.lt (fun e => by have := Option.some.inj e; omega))
       have y0 := Y.cell 0 _ rfl
       have y1 := Y.cell 1 _ rfl
       have f0 := Y.frozen 0
       have f1 := Y.frozen 1))
  refine bodyPost_ret (v := sv (gotS l k).1) ?_ rfl ⟨rfl, ?_, ?_⟩
  · rw [results_cell1 rfl]
    unfold sv gotS
    go_simp
  · exact ((hr2.pastS Y (grown_setCell _ _ _ _) (by omega)).pastS (Y.set 0 _) (grown_setCell _ _ _ _) (by omega))
  · exact stored hlt hg1 hg2

end Go.Proofs.Ytiebbglknmcnpaa
