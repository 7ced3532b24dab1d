/-
  A state with a member, as the document's answer makes it.
-/
import Derived.Test.YtjbpfhnagiacmaaGreatPurA
namespace Go.Proofs.YtjbpfhnagiacmaaGreat
set_option linter.unusedVariables false
set_option linter.unusedSimpArgs false
set_option synthInstance.maxSize 20000
set_option maxHeartbeats 2000000
set_option maxRecDepth 20000
open Go.RowKit Go.Maps
def putStep (m : Mb) (s : List Mb × Bool) (x : Mb) : List Mb × Bool :=
  let a := if !s.2 && decide (m.w ≤ x.w) then s.1 ++ [m] else s.1
  (if x.w = m.w then a else a ++ [x], s.2 || decide (m.w ≤ x.w))
def putSt (m : Mb) (l : List Mb) (k : Nat) : List Mb × Bool := (l.take k).foldl (putStep m) ([], false)
def putEnd (m : Mb) (s : List Mb × Bool) : List Mb := if s.2 then s.1 else s.1 ++ [m]
theorem putSt_succ {m : Mb} {l : List Mb} {k : Nat} {x : Mb} (h : l[k]? = some x) : putSt m l (k + 1) = putStep m (putSt m l k) x := by
  have hk := List.getElem?_eq_some_iff.1 h
  unfold putSt
  rw [List.take_succ_eq_append_getElem hk.1, List.foldl_append, hk.2]
  rfl
theorem putSt_len (m : Mb) (l : List Mb) (k : Nat) : (putSt m l k).1.length ≤ 2 * k := by
  induction k with
  | zero => simp [putSt]
  | succ k ih =>
    by_cases hk : k < l.length
    · rw [putSt_succ (List.getElem?_eq_getElem hk)]
      unfold putStep
      simp only
      split <;> split <;> (try simp) <;> omega
    · have : putSt m l (k + 1) = putSt m l k := by
        unfold putSt
        rw [List.take_of_length_le (by omega), List.take_of_length_le (by omega)]
      rw [this]; omega
theorem put_after {m : Mb} : ∀ (r : List Mb) (o : List Mb), (∀ x ∈ r, m.w < x.w) → r.foldl (putStep m) (o, true) = (o ++ r, true)
  | [], o, _ => by simp
  | x :: r, o, h => by
    have hx := h x (by simp)
    rw [List.foldl_cons]
    have e : putStep m (o, true) x = (o ++ [x], true) := by
      unfold putStep
      simp
      omega
    rw [e, put_after r (o ++ [x]) (fun y hy => h y (by simp [hy]))]
    simp
theorem put_all {m : Mb} : ∀ (l : List Mb) (o : List Mb), Srt l → putEnd m (l.foldl (putStep m) (o, false)) = o ++ (if (findM l m.w).isSome then setW m.w (fun _ => m) l else insL l m)
  | [], o, _ => by simp [putEnd, findM_nil, insL_nil]
  | x :: r, o, h => by
    have h1 := List.pairwise_cons.1 h
    rw [List.foldl_cons]
    by_cases hlt : x.w < m.w
    · have e : putStep m (o, false) x = (o ++ [x], false) := by
        unfold putStep
        have : ¬ m.w ≤ x.w := by omega
        have h2 : ¬ x.w = m.w := by omega
        simp [this, h2]
      rw [e, put_all r (o ++ [x]) h1.2, findM_cons, if_neg (show ¬ x.w = m.w by omega), setW, if_neg (show ¬ x.w = m.w by omega), insL_cons, if_neg (show ¬ m.w < x.w by omega)]
      by_cases hf : (findM r m.w).isSome = true <;> simp [hf]
    · by_cases he : x.w = m.w
      · have e : putStep m (o, false) x = (o ++ [m], true) := by
          unfold putStep
          simp [he]
        rw [e, put_after r _ (fun y hy => by have := h1.1 y hy; omega), findM_cons, if_pos he, setW, if_pos he]
        simp [putEnd]
      · have e : putStep m (o, false) x = (o ++ [m] ++ [x], true) := by
          unfold putStep
          have : m.w ≤ x.w := by omega
          simp [this, he]
        have hn : findM r m.w = none := by
          cases hh : findM r m.w with
          | none => rfl
          | some y =>
            have := findM_some hh
            have h2 := h1.1 y this.1
            omega
        rw [e, put_after r _ (fun y hy => by have := h1.1 y hy; omega), findM_cons, if_neg he, hn, insL_cons, if_pos (show m.w < x.w by omega)]
        simp [putEnd]
def putM (l : List Mb) (m : Mb) : List Mb := putEnd m (putSt m l l.length)
theorem putM_eq {l : List Mb} {m : Mb} (h : Srt l) : putM l m = if (findM l m.w).isSome then setW m.w (fun _ => m) l else insL l m := by
  unfold putM putSt
  rw [List.take_length, put_all l [] h]
  rfl
structure OutAt (W w : World) (b : Nat) (e : Int) (ov : Value) (o : List Mb) : Prop where
  bel : Below b W w
  blk : Blk w b 71 [ov, .int .i64 e]
  own : w.ownsRow 0 117 5 ov o.length (flat mc o)
  new : ∀ j, ov.ownBlock = some j → b < j
theorem OutAt.put {W w w5 : World} {b : Nat} {e : Int} {ov v5 : Value} {o o' : List Mb} (h : OutAt W w b e ov o) (hb : Below (b + 1) w w5) (ho : w5.ownsRow 0 117 5 v5 o'.length (flat mc o')) (hn : ∀ j, v5.ownBlock = some j → b < j) : OutAt W (w5.setCell ⟨b, 0, none⟩ v5) b e v5 o' := by
  have hblk := h.blk.block (hb.block b (by omega))
  refine ⟨(h.bel.trans (hb.mono (by omega))).setCell (Nat.le_refl _) _, hblk.set 0 v5, ?_, hn⟩
  exact ownsRow_block ho (fun j hj => Below.heap_setCell _ _ _ _ (by have := hn j hj; simp; omega))
theorem OutAt.drew {W w : World} {b : Nat} {e : Int} {ov : Value} {o : List Mb} (h : OutAt W w b e ov o) : OutAt W w.drew b e ov o := ⟨h.bel.drew, h.blk, h.own, h.new⟩
end Go.Proofs.YtjbpfhnagiacmaaGreat
