/-
  The library's iterator over steps, from behind.
-/
import Derived.Test.YthnjbjlhfohpfaaUdU
import Derived.RangeFuncNested
import Derived.RangeFuncBound
import Derived.RangeFuncCalls
import Derived.RangeFuncLeaves
import Derived.Shelf.Abstract
import Derived.Shelf.RegionOpen
import Derived.WalkKit
import Derived.OwnWalkIn
import Derived.TacticsInMore
import Derived.LoopNIn
import Derived.LoopIn
namespace Go.Proofs.Ythnjbjlhfohpfaa
set_option linter.unusedVariables false
set_option linter.unusedSimpArgs false
set_option synthInstance.maxSize 20000
set_option maxHeartbeats 2000000
set_option maxRecDepth 20000
open Go.RowKit Go.Maps

open Go.Shelf
theorem wpListIn_okT {F : Fence} {n : Nat} {P : Program} {w w' : World} {ops : Array Oper} {rest : List Oper} {o : Oper} {a : Act} {Q : Exit → Act → World → Prop} {v : Value} (hgd : o.guard = none) (hab : o.about P w a.eval = none) (hd : ∀ c, o.op ≠ .defer c) (hr : (execOp a.eval o).run P w = .ok (.value v) w') (h : wpListIn F n P ops Q rest (a.put o.dst v) w') : wpListIn F n P ops Q (o :: rest) a w := by
  refine wpListIn_plain hgd fun K hK => ?_
  unfold Oper.wpIn
  refine ⟨fun f hf => (by rw [hab] at hf; cases hf), ?_⟩
  rw [Oper.semAt_plain F _ _ (fun c hc => hd c hc), hr]
  exact hK _ _ h
def KpB (Bs g : Nat) (W W' : World) : Prop := W'.heap[Bs]? = W.heap[Bs]? ∧ W'.heap[g]? = W.heap[g]?
theorem kpB_t {Bs g : Nat} {A B C : World} (h : KpB Bs g A B) (k : KpB Bs g B C) : KpB Bs g A C := ⟨k.1.trans h.1, k.2.trans h.2⟩
theorem kpB_b {Bs g : Nat} {w : World} (h1 : Bs < w.heap.size) (h2 : g < w.heap.size) (W : World) (l : Nat) (o o' : Obj) (hl : w.heap.size ≤ l) (_ : W.heap[l]? = some o) (_ : o.isCells = false) (_ : o.isWalk = false) : KpB Bs g W (W.putObj l o') := ⟨World.putObj_heap_other (by omega), World.putObj_heap_other (by omega)⟩
def downF (m k : Nat) : List (Fin m) := (List.finRange m).reverse.take k
theorem downF_zero (m : Nat) : downF m 0 = [] := rfl
theorem downF_all (m : Nat) : downF m m = (List.finRange m).reverse := List.take_of_length_le (by simp)
theorem downF_succ {m k : Nat} (h : k < m) : downF m (k + 1) = downF m k ++ [⟨m - 1 - k, by omega⟩] := by
  unfold downF
  rw [List.take_succ_eq_append_getElem (by simpa using h)]
  congr 2
  rw [List.getElem_reverse]
  simp
theorem downF_len {m k : Nat} (h : k ≤ m) : (downF m k).length = k := by unfold downF; simp; omega
set_option maxRecDepth 100000 in
set_option maxHeartbeats 4000000 in
theorem back84 (n : Nat) (hn : 1 ≤ n) (l Bs g off cap : Nat) (R : List ST) (hR : R.length ≤ 1000) (hcap : R.length ≤ cap ∧ cap ≤ 9223372036854775807) (J Jx : List (Fin R.length) → World → Prop)
    (hY : ∀ pre x W, J pre W → pre.length < R.length → YieldAt Fence.wide (n - 1) Try.prog l #[.int .i64 (x.1 : Int), tv R[x.1]] W fun e W' => (e = .returned (.bool true) ∧ J (pre ++ [x]) W' ∧ KpB Bs g W W') ∨ (e = .returned (.bool false) ∧ Jx (pre ++ [x]) W'))
    (W : World) (hBs : W.cell? ⟨Bs, 0, none⟩ = some (.slice (some ⟨g, off, none⟩) R.length cap)) (hc : ∀ j (h : j < R.length), W.rangeAt g (off + j * 21) (tc R[j])) (h0 : J [] W) :
    CallsIn Fence.wide n Try.prog 84 #[.func (.yield l) #[] #[], .pointer (some ⟨Bs, 0, none⟩)] W fun e W' => (∃ v, e = .returned v) ∧ ((∃ ys, ys = (List.finRange R.length).reverse ∧ J ys W') ∨ (∃ pre, True ∧ Jx pre W')) := by
  refine callsIn_of_wp Try.func84 rfl trivial ?_ rfl
  simp only [Try.ntmps84, List.size_toArray, List.length_cons, List.length_nil, Nat.reduceAdd, Nat.reduceSub, Array.replicate_succ, Array.replicate_zero, List.push_toArray, List.append_toArray, List.nil_append, List.cons_append]
  gi_wp2
  gi_loopw [3] (fun i wr => ∃ k j : Nat, k + j = R.length ∧ i = .int .i64 ((j : Int) - 1) ∧ Hid (J (downF R.length k) wr) ∧ Hid (KpB Bs g W wr)) (fun i _ => (intOf i + 1).toNat)
  case atStart => exact ⟨0, R.length, by omega, rfl, h0, ⟨rfl, rfl⟩⟩
  case round =>
    obtain ⟨k, j, hkj, rfl, HJ, HK⟩ := hrel
    cases j with
    | succ j =>
      have hj : j < R.length := by omega
      rw [show ((j + 1 : Nat) : Int) - 1 = (j : Int) by omega]
      have hjI : (j : Int) < (R.length : Int) := by omega
      obtain ⟨fn, tmps, assign, body, hy, hYR⟩ := hY _ ⟨j, hj⟩ wr HJ.out (by rw [downF_len (by omega)]; omega)
      dsimp only at hy
      have hb1 : wr.cell? ⟨Bs, 0, none⟩ = some (.slice (some ⟨g, off, none⟩) R.length cap) := (World.cell?_of_block (a := ⟨Bs, 0, none⟩) HK.out.1).trans hBs
      have HL : Hid (wr.rangeAt g (off + j * 21) (tc R[j])) := fun p u hu => (World.cell?_of_block (a := ⟨g, off + j * 21 + p, none⟩) HK.out.2).trans (hc j hj p u hu)
      obtain ⟨x, hx⟩ : ∃ x, x = R[j] := ⟨_, rfl⟩
      rw [← hx] at hy HL
      have HD : Hid (downF R.length (k + 1) = downF R.length k ++ [⟨j, hj⟩]) := by
        show _ = _
        rw [downF_succ (by omega)]
        congr 3
        omega
      clear hc hx
      gi_wp2_with (refine wpListIn_okT rfl rfl (fun c h => by cases h) (exec_load76 (q := x) (.tmp 15) rfl rfl HL.out) ?_)
      refine hYR.mono ?_
      rintro e W3 (⟨rfl, hJ3, hk3⟩ | ⟨rfl, hJx3⟩)
      · gi_wp2
        go_roundw
        case rel => exact ⟨k + 1, j, by omega, rfl, by rw [HD.out]; exact hJ3, kpB_t HK.out hk3⟩
        case measure => simp [intOf]
      · gi_wp2
        refine bodyPost_ret (results_none rfl _ _ _) rfl ?_
        exact ⟨⟨_, rfl⟩, .inr ⟨_, trivial, hJx3⟩⟩
    | zero =>
      obtain rfl : k = R.length := by omega
      gi_wp2
      go_end0
      rw [← downF_all]
      exact ⟨⟨_, rfl⟩, .inl ⟨_, rfl, HJ.out⟩⟩
set_option maxRecDepth 100000 in
theorem back84z (n : Nat) (l Bs : Nat) (a : Option Addr) (cap : Nat) (W : World) (hBs : W.cell? ⟨Bs, 0, none⟩ = some (.slice a 0 cap)) {Q : World → Prop} (h0 : Q W) :
    CallsIn Fence.wide n Try.prog 84 #[.func (.yield l) #[] #[], .pointer (some ⟨Bs, 0, none⟩)] W fun e W' => (∃ v, e = .returned v) ∧ Q W' := by
  have H0 : Hid (Q W) := h0
  clear h0
  refine callsIn_of_wp Try.func84 rfl trivial ?_ rfl
  simp only [Try.ntmps84, List.size_toArray, List.length_cons, List.length_nil, Nat.reduceAdd, Nat.reduceSub, Array.replicate_succ, Array.replicate_zero, List.push_toArray, List.append_toArray, List.nil_append, List.cons_append]
  gi_wp2
  gi_loopw [3] (fun i wr => i = .int .i64 (-1) ∧ wr = W) (fun _ _ => 0)
  case atStart => exact ⟨rfl, rfl⟩
  case round =>
    obtain ⟨rfl, rfl⟩ := hrel
    gi_wp2
    go_end0
    exact ⟨⟨_, rfl⟩, H0.out⟩
/-- A slice of steps, from off on in block g, or of none. -/
def Tail (w : World) (g : Nat) (u : Value) (R : List ST) : Prop := (R = [] ∧ ∃ a cap, u = .slice a 0 cap) ∨ ∃ off cap, u = .slice (some ⟨g, off, none⟩) R.length cap ∧ R.length ≤ cap ∧ cap ≤ 9223372036854775807 ∧ g < w.heap.size ∧ ∀ j (h : j < R.length), w.rangeAt g (off + j * 21) (tc R[j])
theorem back_stops (n : Nat) (hn : 1 ≤ n) (Bs g : Nat) (u : Value) (R : List ST) (w : World) (hR : R.length ≤ 1000) (hT : Tail w g u R) (hB : Bs < w.heap.size) (hBs : w.cell? ⟨Bs, 0, none⟩ = some u) :
    SeqStopsK Fence.wide n Try.prog 84 #[.pointer (some ⟨Bs, 0, none⟩)] (fun x : Fin R.length => #[.int .i64 (x.1 : Int), tv R[x.1]]) (KpB Bs g) (fun xs => xs = (List.finRange R.length).reverse) (fun _ => True) R.length w := by
  intro l J Jx W hW hJ hJx hY h0
  have hc' : W.cell? ⟨Bs, 0, none⟩ = some u := (World.cell?_of_block (a := ⟨Bs, 0, none⟩) (hW.block Bs hB)).trans hBs
  rcases hT with ⟨rfl, a, cap, rfl⟩ | ⟨off, cap, rfl, h1, h2, h3, h4⟩
  · exact (back84z n l Bs a cap W hc' (Q := fun W => J [] W) h0).mono fun e W' ⟨he, hj⟩ => ⟨he, .inl ⟨[], rfl, hj⟩⟩
  · exact back84 n hn l Bs g off cap R hR ⟨h1, h2⟩ J Jx hY W hc' (fun j h p x hx => (World.cell?_of_block (a := ⟨g, off + j * 21 + p, none⟩) (hW.block g h3)).trans (h4 j h p x hx)) h0
theorem backward59 (a : Option Addr) (n c : Nat) (w : World) : Calls Try.prog 59 #[.slice a n c] w fun e w' => e = .returned (.func (.func 84) #[] #[ptr w.heap.size]) ∧ w' = w.alloc (.cells #[.slice a n c] 66) := by
  go_enter Try.func59, Try.ntmps59
  go_wp2
  go_ret
  exact ⟨rfl, rfl⟩
end Go.Proofs.Ythnjbjlhfohpfaa
