/-
  The contracts of the calls of layer 1 that put a form behind bytes: apart, putNum, Num, Int, Bytes, Bool.
  Stamps as pairs of numbers: how they stand, which are right; lists and numbers alone.
  Blocks that a call laid, and slices of stamps in memory: what a slice value reads as (RdS), a row of stamps that the call itself made (OwnS).
  The contract of layer 1's reading of one number: it answers the number whose form the bytes begin with, and how many bytes the form has; 0 and 0 where none stands.
  The contracts of layer 1's reader, by a state of two parts: the bytes that are left, and what is wrong.
  The contracts of the other calls of layer 1's reader: what is left, what is wrong, and how an Int, bytes, a count, a text and a word are taken; and of a reader of given bytes.
  The contracts of layer 1's reader for bytes, counts and words, and of a reader of given bytes.
  The contract of the reference's comparison of bytes: it answers whether the two lists of bytes are one, and writes nothing.
-/
import Derived.Test.YtjbpfhnagiacmaaGreatRows
import Derived.Test.YtjbpfhnagiacmaaGreatBase
import Derived.WalkSpells
import Derived.WalkKit
import Derived.Sort.Grow
import Derived.Deep.Draws
namespace Go.Proofs.YtjbpfhnagiacmaaGreat
section
set_option linter.unusedVariables false
open Go.RowKit
theorem byteTy : ByteTy Tryz.prog 25 5 := ⟨by kernel_rfl, by kernel_rfl⟩
set_option maxHeartbeats 400000 in
theorem apart_any (v : Value) (l : List Int) (room : Nat) (w : World) (hv : Rd w v l) (hl : l.length ≤ 1000000000) (hr : room ≤ 1000000000) :
    Calls Tryz.prog 118 #[v, .int .i64 room] w fun e w' => ∃ v', e = .returned v' ∧ Own w.heap.size 5 w' v' l ∧ Below w.heap.size w w' := by
  obtain ⟨a, cap, rfl⟩ := hv.len
  go_enter Tryz.func118, Tryz.ntmps118
  go_wp2_with (first | (at_make; go_must (refine wpList_make_bytes 25 5 byteTy rfl (.tmp 7) (.tmp 11) rfl .i64 .i64 _ _ l.length (l.length + room) rfl rfl rfl (by omega) (by omega) (by omega) ?_)) | (refine wpList_copy_bytes 25 5 byteTy rfl (.tmp 13) (.tmp 14) rfl w _ l (l.length + room) rfl rfl rfl hv (by omega) (by unfold maxLen; omega) ?_; intro w1 hown1 hb1))
  go_ret
  exact ⟨_, rfl, hown1, hb1⟩
set_option maxHeartbeats 400000 in
set_option maxRecDepth 20000 in
theorem putNum_any (v : Value) (l : List Int) (N : Nat) (B : Nat) (w : World) (hv : Own B 5 w v l) (hB : B ≤ w.heap.size) (hl : l.length ≤ 2000000000) (hN : N < 18446744073709551616) :
    Calls Tryz.prog 117 #[v, .int .u64 N] w fun e w' => ∃ v', e = .returned v' ∧ Own B 5 w' v' (l ++ form N) ∧ Below B w w' := by
  have HN : Hid (N < 18446744073709551616) := hN
  clear hN
  go_enter Tryz.func117, Tryz.ntmps117
  go_wp2
  go_loopw [0, 1] (fun v n wr => ∃ (k : Nat) (pre : List Int), k ≤ N ∧ n = .int .u64 k ∧ Own B 5 wr v (l ++ pre) ∧ Hid (pre ++ form k = form N) ∧ Below B w wr)
    (fun _ n _ => (intOf n).toNat)
  case atStart => exact ⟨N, [], Nat.le_refl _, rfl, by simpa using hv, rfl, Below.refl _ _⟩
  case round =>
    obtain ⟨k, pre, hk, rfl, hown, hform, hb⟩ := hrel
    have hpre : pre.length ≤ 10 := by
      have h1 := form_le10 HN.out
      have h2 := congrArg List.length hform.out
      simp only [List.length_append] at h2
      omega
    have hsz := hb.size
    by_cases h : k < 128
    · go_wp2_with (at_builtin; go_must (refine wpList_append_cells 25 5 byteTy rfl (.tmp 15) (.tmp 18) rfl B _ (l ++ pre) rfl (hown.alloc _) _ [(k : Int)] rfl (rd_one wr k 5 (by omega)) (by simp; omega) (by simp; omega) ?_; intro v2 w2 hown2 hg2))
      go_ret
      refine ⟨_, rfl, ?_, (hown.alloc _).below (hb.alloc (by omega) _) hB hg2⟩
      rw [← hform.out, form_lt h, ← List.append_assoc]
      exact hown2
    · have hor := or128 ((k : Int) % 256) (by omega) (by omega)
      have hmm : (k : Int) % 256 % 128 = (k : Int) % 128 := by omega
      rw [hmm] at hor
      clear hmm
      go_wp2_with (at_builtin; go_must (refine wpList_append_cells 25 5 byteTy rfl (.tmp 7) (.tmp 11) rfl B _ (l ++ pre) rfl (hown.alloc _) _ [(k : Int) % 128 + 128] rfl (rd_one wr _ 5 (by omega)) (by simp; omega) (by simp; omega) ?_; intro v2 w2 hown2 hg2))
      go_roundw
      case rel =>
        refine ⟨k / 128, pre ++ [(k : Int) % 128 + 128], by omega, by simp, ?_, ?_, (hown.alloc _).below (hb.alloc (by omega) _) hB hg2⟩
        · rw [← List.append_assoc]; exact hown2
        · show _ = _
          rw [← hform.out, form_ge h, List.append_assoc]; simp
      case measure => simp [intOf]; omega
set_option maxHeartbeats 400000 in
theorem num_any (v : Value) (l : List Int) (N : Nat) (w : World) (hv : Rd w v l) (hl : l.length ≤ 1000000000) (hN : N < 18446744073709551616) :
    Calls Tryz.prog 90 #[v, .int .u64 N] w fun e w' => ∃ v', e = .returned v' ∧ Own w.heap.size 5 w' v' (l ++ form N) ∧ Below w.heap.size w w' := by
  have HN : Hid (N < 18446744073709551616) := hN
  clear hN
  go_enter Tryz.func90, Tryz.ntmps90
  go_wp2_with (first | (go_at_call 118; go_must (refine (apart_any _ l 10 _ hv hl (by omega)).mono ?_; rintro e w1 ⟨v1, rfl, hown1, hb1⟩)) | (go_at_call 117; go_must (refine (putNum_any _ l N _ _ hown1 hb1.size (by omega) HN.out).mono ?_; rintro e w2 ⟨v2, rfl, hown2, hb2⟩)))
  go_ret
  exact ⟨_, rfl, hown2, hb1.trans hb2⟩
end
section
section
set_option linter.unusedVariables false
abbrev S := Int × Int
def I64 (x : Int) : Prop := -9223372036854775808 ≤ x ∧ x ≤ 9223372036854775807
def SOk (s : S) : Prop := I64 s.1 ∧ I64 s.2
abbrev rightP (s : S) : Prop := 1 ≤ s.1 ∧ s.1 ≤ 1099511627776 ∧ 0 ≤ s.2 ∧ s.2 ≤ 7
end
section
set_option linter.unusedVariables false
open Go.RowKit
def Blk (w : World) (b : Nat) (e : TypeId) (vs : List Value) : Prop := w.heap[b]? = some (.cells vs.toArray e (0, 0))
theorem Blk.lt {w : World} {b : Nat} {e : TypeId} {vs : List Value} (h : Blk w b e vs) : b < w.heap.size := (Array.getElem?_eq_some_iff.1 h).1
theorem Blk.cell {w : World} {b : Nat} {e : TypeId} {vs : List Value} (h : Blk w b e vs) (i : Nat) (v : Value) (hi : vs[i]? = some v) : w.cell? ⟨b, i, none⟩ = some v := by
  unfold Blk at h
  simp [World.cell?, h, hi]
theorem Blk.frozen {w : World} {b : Nat} {e : TypeId} {vs : List Value} (h : Blk w b e vs) (i : Nat) : w.frozen? ⟨b, i, none⟩ = false := by
  unfold Blk at h
  simp [World.frozen?, h]
theorem Blk.block {w w' : World} {b : Nat} {e : TypeId} {vs : List Value} (h : Blk w b e vs) (hb : w'.heap[b]? = w.heap[b]?) : Blk w' b e vs := hb.trans h
theorem Blk.below {w w' : World} {b : Nat} {e : TypeId} {vs : List Value} (h : Blk w b e vs) (hb : Below w.heap.size w w') : Blk w' b e vs := h.block (hb.block b h.lt)
theorem blk_new (w : World) (c : List Value) (e : TypeId) : Blk (w.alloc (.cells c.toArray e)) w.heap.size e c := heap_alloc_new w _
theorem Blk.alloc {w : World} {b : Nat} {e : TypeId} {vs : List Value} (h : Blk w b e vs) (o : Obj) : Blk (w.alloc o) b e vs := h.below ((Below.refl _ _).alloc (Nat.le_refl _) _)
def sv (s : S) : Value := .agg #[.int .i64 s.1, .int .i64 s.2]
def sc (s : S) : List Value := [.int .i64 s.1, .int .i64 s.2]
theorem ret_bool {X Y : Bool} (h : X = true ↔ Y = true) : Ending.returned (.bool X) = .returned (.bool Y) := by rw [Bool.eq_iff_iff.2 h]
def RdS (w : World) (v : Value) (l : List S) : Prop :=
  (∀ s ∈ l, SOk s) ∧ ∃ (a : Option Addr) (cap : Nat), v = .slice a l.length cap ∧ l.length ≤ cap ∧ cap ≤ maxLen ∧ (a = none → cap = 0) ∧
    (0 < l.length → ∃ b off, a = some ⟨b, off, none⟩ ∧ ∀ j, j < l.length → w.cell? ⟨b, off + j * 2, none⟩ = some (.int .i64 (l.getD j (0, 0)).1) ∧ w.cell? ⟨b, off + j * 2 + 1, none⟩ = some (.int .i64 (l.getD j (0, 0)).2))
theorem RdS.ok {w : World} {v : Value} {l : List S} (h : RdS w v l) (j : Nat) (hj : j < l.length) : SOk (l.getD j (0, 0)) := h.1 _ (by
  rw [List.getD_eq_getElem?_getD, List.getElem?_eq_getElem hj]
  exact List.getElem_mem hj)
theorem RdS.len {w : World} {v : Value} {l : List S} (h : RdS w v l) : ∃ a cap, v = .slice a l.length cap := ⟨h.2.choose, h.2.choose_spec.choose, h.2.choose_spec.choose_spec.1⟩
theorem RdS.cap {w : World} {a : Option Addr} {n cap : Nat} {l : List S} (h : RdS w (.slice a n cap) l) : n = l.length ∧ n ≤ cap ∧ cap ≤ 9223372036854775807 := by
  obtain ⟨ho, a', cap', e, h1, h2, h3, h4⟩ := h
  obtain ⟨rfl, rfl, rfl⟩ : a = a' ∧ n = l.length ∧ cap = cap' := by simpa using e
  exact ⟨rfl, h1, by unfold maxLen at h2; omega⟩
theorem RdS.kept {w w' : World} {v : Value} {l : List S} {r : Option Nat} (h : RdS w v l) (hg : w.grownBy w' r) (hne : ∀ k, r = some k → v.ownBlock ≠ some k) : RdS w' v l := by
  obtain ⟨ho, a, cap, rfl, h1, h2, h3, h4⟩ := h
  refine ⟨ho, a, cap, rfl, h1, h2, h3, fun hp => ?_⟩
  obtain ⟨b, off, rfl, hc⟩ := h4 hp
  refine ⟨b, off, rfl, fun j hj => ⟨?_, ?_⟩⟩
  · exact hg.cell (hc j hj).1 fun e => hne b e.symm rfl
  · exact hg.cell (hc j hj).2 fun e => hne b e.symm rfl
theorem RdS.below {w w' : World} {v : Value} {l : List S} (h : RdS w v l) (hg : Below w.heap.size w w') : RdS w' v l := h.kept (below_grown hg) fun k e => by cases e
theorem RdS.at {w w' : World} {a : Option Addr} {n cap : Nat} {l : List S} (h : RdS w (.slice a n cap) l) (hg : Below w.heap.size w w') (j : Nat) (hj : j < l.length) :
    ∃ b off, a = some ⟨b, off, none⟩ ∧ w'.cell? ⟨b, off + j * 2, none⟩ = some (.int .i64 (l.getD j (0, 0)).1) ∧ w'.cell? ⟨b, off + j * 2 + 1, none⟩ = some (.int .i64 (l.getD j (0, 0)).2) := by
  obtain ⟨ho, a', cap', e, h1, h2, h3, h4⟩ := h.below hg
  obtain ⟨rfl, _, _⟩ : a = a' ∧ n = l.length ∧ cap = cap' := by simpa using e
  obtain ⟨b, off, rfl, hc⟩ := h4 (by omega)
  exact ⟨b, off, rfl, hc j hj⟩
end
end
section
section
set_option linter.unusedVariables false
open Go.RowKit
structure Rdr (w : World) (b : Nat) (l : List Int) (k : Int) : Prop where
  left : ∃ v, w.cell? ⟨b, 0, none⟩ = some v ∧ Rd w v l
  wrong : w.cell? ⟨b, 1, none⟩ = some (.int .i64 k)
  f0 : w.frozen? ⟨b, 0, none⟩ = false
  f1 : w.frozen? ⟨b, 1, none⟩ = false
  two : ∀ o, 2 ≤ o → w.cell? ⟨b, o, none⟩ = none
  gone : k ≠ 0 → l = []
abbrev ptr (b : Nat) : Value := .pointer (some ⟨b, 0, none⟩)
theorem grown_setCell (w : World) (b o : Nat) (u : Value) : w.grownBy (w.setCell ⟨b, o, none⟩ u) (some b) :=
  ⟨rfl, rfl, rfl, by simp, fun k _ hne => Below.heap_setCell w _ _ k (fun e => hne (by rw [e]))⟩
theorem Rd.past {w w' : World} {v : Value} {l m : List Int} {b : Nat} {k : Int} (h : Rd w v l) (hr : Rdr w b m k) (hg : w.grownBy w' (some b)) : Rd w' v l := by
  obtain ⟨ho, a, cap, rfl, h1, h2, h3, h4⟩ := h
  refine ⟨ho, a, cap, rfl, h1, h2, h3, fun hp => ?_⟩
  obtain ⟨c, off, rfl, hc⟩ := h4 hp
  refine ⟨c, off, rfl, fun j hj => hg.cell (hc j hj) fun e => ?_⟩
  obtain rfl : c = b := by simpa using e
  have hcj := hc j hj
  obtain ⟨u, hu, _, _, _, rfl, _⟩ := hr.left
  have hw := hr.wrong
  rcases Nat.lt_trichotomy (off + j) 1 with h | h | h
  · rw [show off + j = 0 by omega, hu] at hcj; cases hcj
  · rw [h, hw] at hcj; cases hcj
  · rw [hr.two _ (by omega)] at hcj; cases hcj
theorem Rdr.kept {w w' : World} {l : List Int} {b : Nat} {k : Int} (h : Rdr w b l k) (hg : w.grownBy w' none) : Rdr w' b l k := by
  obtain ⟨v, hv, hrd⟩ := h.left
  have hb : w'.heap[b]? = w.heap[b]? := hg.block b (World.block_lt_of_cell? w _ hv) (by simp)
  exact ⟨⟨v, (World.cell?_of_block hb).trans hv, hrd.kept0 hg⟩, (World.cell?_of_block hb).trans h.wrong, (World.frozen?_of_block hb).trans h.f0, (World.frozen?_of_block hb).trans h.f1, fun o ho => (World.cell?_of_block hb).trans (h.two o ho), h.gone⟩
theorem Rdr.lt {w : World} {l : List Int} {b : Nat} {k : Int} (h : Rdr w b l k) : b < w.heap.size := World.block_lt_of_cell? w _ h.wrong
def rNum (l : List Int) (k : Int) : Nat × List Int × Int := match parse 0 l with
  | some (n, r) => (n, r, k)
  | none => (0, [], if k = 0 then 4 else k)
end
section
set_option linter.unusedVariables false
open Go.RowKit
theorem Rdr.oct {w : World} {l : List Int} {b : Nat} {k : Int} (h : Rdr w b l k) : Oct l := by obtain ⟨_, _, hr⟩ := h.left; exact hr.oct
end
end
section
set_option linter.unusedVariables false
open Go.RowKit
theorem take_snoc_eq {a b : List Int} {k : Nat} (h : a.take k = b.take k) (ha : k < a.length) (hb : k < b.length) (e : a.getD k 0 = b.getD k 0) : a.take (k + 1) = b.take (k + 1) := by
  rw [List.take_succ_eq_append_getElem ha, List.take_succ_eq_append_getElem hb, h]
  congr 2
  simpa [ha, hb] using e
set_option maxHeartbeats 1000000 in
set_option maxRecDepth 20000 in
theorem same_any (v x : Value) (a b : List Int) (w : World) (hv : Rd w v a) (hx : Rd w x b) :
    Calls Tryz.prog 11 #[v, x] w fun e w' => e = .returned (.bool (decide (a = b))) ∧ Below w.heap.size w w' := by
  obtain ⟨hoa, av, cv, rfl, h1, h2, h3, h4⟩ := hv
  obtain ⟨hob, ax, cx, rfl, g1, g2, g3, g4⟩ := hx
  unfold maxLen at h2 g2
  by_cases hl : a.length = b.length
  · have hne : ((a.length : Int) != (b.length : Int)) = false := by simp [hl]
    have HL : Hid (a.length = b.length) := hl
    clear hl
    go_enter Tryz.func11, Tryz.ntmps11
    go_wp2
    go_loopw [5] (fun i wr => ∃ k : Nat, k ≤ a.length ∧ i = .int .i64 k ∧ Hid (a.take k = b.take k) ∧ Below w.heap.size w wr) (fun i _ => a.length - (intOf i).toNat)
    case atStart => exact ⟨0, Nat.zero_le _, rfl, rfl, Below.refl _ _⟩
    case round =>
      obtain ⟨k, hk, rfl, ht, hb⟩ := hrel
      by_cases hlt : k < a.length
      · obtain ⟨ba, oa, rfl, hca⟩ := h4 (by omega)
        obtain ⟨bx, ox, rfl, hcx⟩ := g4 (by have := HL.out; omega)
        have ca := (hb.cell (World.block_lt_of_cell? w _ (hca k hlt))).trans (hca k hlt)
        have cx := (hb.cell (World.block_lt_of_cell? w _ (hcx k (by have := HL.out; omega)))).trans (hcx k (by have := HL.out; omega))
        have hlt' : k < b.length := by have := HL.out; omega
        have HB : Hid (Below w.heap.size w wr) := hb
        clear hca hcx h4 g4 hb hoa hob
        by_cases heq : a.getD k 0 = b.getD k 0
        · have HS : Hid (a.take (k + 1) = b.take (k + 1)) := take_snoc_eq ht.out hlt hlt' heq
          rw [← heq] at cx
          generalize a.getD k 0 = p at ca cx
          clear heq
          go_wp2
          go_region
          all_goals go_wp2
          all_goals
            go_roundw
            case rel => exact ⟨k + 1, by omega, by go_num, HS, by first | exact HB.out | exact HB.out.drew | exact HB.out.drew.drew⟩
            case measure => simp [intOf]; omega
        · have HS : Hid (¬ a = b) := fun e => heq (by rw [e])
          have hpq : (a.getD k 0 != b.getD k 0) = true := by simpa using heq
          generalize a.getD k 0 = p at ca hpq
          generalize b.getD k 0 = q at cx hpq
          clear heq
          go_wp2
          go_region
          all_goals go_wp2
          all_goals
            go_ret
            refine ⟨?_, by first | exact HB.out | exact HB.out.drew | exact HB.out.drew.drew⟩
            rw [decide_eq_false HS.out]
            rfl
      · have HS : Hid (a = b) := by
          have := ht.out
          rwa [List.take_of_length_le (by omega), List.take_of_length_le (by have := HL.out; omega)] at this
        have HB : Hid (Below w.heap.size w wr) := hb
        clear h4 g4 hb hoa hob
        go_wp2
        go_ret
        refine ⟨?_, HB.out⟩
        rw [decide_eq_true HS.out]
        rfl
  · have hne : ((a.length : Int) != (b.length : Int)) = true := by simp; omega
    go_enter Tryz.func11, Tryz.ntmps11
    go_wp2
    go_ret
    refine ⟨?_, Below.refl _ _⟩
    rw [decide_eq_false (fun h => hl (by rw [h]))]
    rfl
end
end Go.Proofs.YtjbpfhnagiacmaaGreat
