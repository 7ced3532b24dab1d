/-
  Operations as cells; what an operation of ten cells runs to; byAt, together, Less, Root.
-/
import Derived.Test.YtcchokedfbogfaaWirP
import Derived.Test.YtcchokedfbogfaaRowG
import Derived.Test.YtcchokedfbogfaaPutsS
namespace Go.Proofs.Ytcchokedfbogfaa
set_option linter.unusedVariables false
set_option linter.unusedSimpArgs false
set_option synthInstance.maxSize 20000
set_option maxHeartbeats 2000000
set_option maxRecDepth 20000
open Go.RowKit Go.Maps

structure OpT where
  k : Int
  a : S
  n : S
  p : S
  d : Bool
  s : ByteArray
  va : Option Addr
  vn : Nat
  vc : Nat
  b : List Int
/-- The content's slice. -/
def OpT.v (q : OpT) : Value := .slice q.va q.vn q.vc
def oc (q : OpT) : List Value := [.int .i64 q.k, .int .i64 q.a.1, .int .i64 q.a.2, .int .i64 q.n.1, .int .i64 q.n.2, .int .i64 q.p.1, .int .i64 q.p.2, .bool q.d, .string q.s, .slice q.va q.vn q.vc]
theorem oc_len (q : OpT) : (oc q).length = 10 := rfl
theorem oc_one (q : OpT) : ∀ u ∈ oc q, u.oneCell' = true := fun u hu => by
  simp only [oc, List.mem_cons, List.not_mem_nil, or_false] at hu
  rcases hu with rfl | rfl | rfl | rfl | rfl | rfl | rfl | rfl | rfl | rfl <;> rfl
theorem flat_oc_one (l : List OpT) : ∀ u ∈ flat oc l, u.oneCell' = true := flat_one fun x _ => oc_one x
def ov (q : OpT) : Value := .agg (oc q).toArray
/-- The operation of nothing. -/
def oz : OpT := ⟨0, (0, 0), (0, 0), (0, 0), false, ⟨#[]⟩, none, 0, 0, []⟩
theorem info26 : (Try.prog.info? 26).map (·.size) = some 10 := by kernel_rfl
theorem ty28 : RowTy 28 26 10 104 (ov oz) := ⟨by kernel_rfl, by kernel_rfl, by kernel_rfl, by omega⟩
section
variable {o : Oper} {r : Operand → Value}
theorem exec_load26 {w : World} {b off : Nat} {q : OpT} (x : Operand) (ho : o.op = .load 26 x) (hx : r x = .pointer (some ⟨b, off, none⟩)) (hc : w.rangeAt b off (oc q)) : (execOp r o).run Try.prog w = .ok (.value (ov q)) w := by
  have h := run_loadAt_mid (P := Try.prog) w b off 26 (oc q) _ hc Try.underlying26 rfl (by rw [oc_len]; exact info26)
  unfold execOp
  simp only [ho, hx, Sem.run_bind, h, Result.andThen_ok, Sem.run_pure]
  rfl
theorem exec_store26 {w : World} {b off : Nat} {q : OpT} (x y : Operand) (ho : o.op = .store 26 x y) (hx : r x = .pointer (some ⟨b, off, none⟩)) (hy : r y = ov q) (ht : w.there b off 10) : (execOp r o).run Try.prog w = .ok .skip (w.setCells b off (oc q)) := by
  have h := run_storeAt_mid (P := Try.prog) w b off 26 (oc q).toArray (by simpa [oc_len] using ht) (by rw [List.size_toArray, oc_len]; exact info26) (all_oneCell_toArray (oc_one q))
  unfold ov at hy
  unfold execOp
  simp only [ho, hx, hy, Sem.run_bind, h, Result.andThen_ok, Sem.run_pure]
end
theorem wpQuiet_ok {P : Program} {ops : Array Oper} {C : World → Prop} {K : Act → Prop} {o : Oper} {rest : List Oper} {a : Act} {v : Value} (hgd : o.guard = none) (hr : ∀ w, C w → (execOp a.eval o).run P w = .ok (.value v) w) (h : wpQuiet P ops C K rest (a.put o.dst v)) : wpQuiet P ops C K (o :: rest) a := by
  unfold wpQuiet
  rw [if_pos (by simp only [Region.wanted, hgd])]
  refine ⟨v, fun w hw => ?_, h⟩
  unfold Oper.quietAt
  rw [hr w hw]
  exact ⟨rfl, rfl⟩

theorem quiet_ok1 {P : Program} {ops : Array Oper} {C : World → Prop} {K : Act → Prop} {o : Oper} {a : Act} {v : Value} (hw : Region.wanted o (yielded ops a.tmps) = true) (hr : ∀ w, C w → (execOp a.eval o).run P w = .ok (.value v) w) (h : K (a.put o.dst v)) : wpQuiet P ops C K [o] a := by
  unfold wpQuiet
  rw [if_pos hw]
  refine ⟨v, fun w hw => ?_, h⟩
  unfold Oper.quietAt
  rw [hr w hw]
  exact ⟨rfl, rfl⟩
theorem root26 (w : World) : Calls Try.prog 26 #[] w fun e w' => e = .returned (sv (0, 0)) ∧ Below w.heap.size w w' := by
  unfold sv
  go_enter Try.func26, Try.ntmps26
  go_wp2
  refine bodyPost_ret (v := .agg #[.int .i64 0, .int .i64 0]) ?_ rfl ⟨rfl, balloc (Below.refl _ _) _⟩
  rw [results_cell1 rfl]
  go_simp
theorem byAt50 (a b : OpT) (w : World) : Calls Try.prog 50 #[ov a, ov b] w fun e w' => e = .returned (.int .i64 (cmpS a.a b.a)) ∧ Below w.heap.size w w' := by
  have hc := fun w' => compare_any a.a b.a w'
  generalize cmpS a.a b.a = r at hc ⊢
  obtain ⟨ak, ⟨a1, a2⟩, ⟨an1, an2⟩, ⟨ap1, ap2⟩, ad, aS, ava, avn, avc, ab⟩ := a
  obtain ⟨bk, ⟨b1, b2⟩, ⟨bn1, bn2⟩, ⟨bp1, bp2⟩, bd, bS, bva, bvn, bvc, bb⟩ := b
  unfold ov oc
  unfold sv at hc
  dsimp only at hc ⊢
  go_enter Try.func50, Try.ntmps50
  go_wp2_with (go_at_call 78; go_must (refine (hc _).mono ?_; rintro e w1 ⟨rfl, hg⟩; have hb := grow_below hg; clear hg))
  go_ret
  exact ⟨rfl, (balloc (balloc (Below.refl _ w) _) _).trans (hb.mono (by simp; omega))⟩
theorem less24 (a b : OpT) (w : World) : Calls Try.prog 24 #[ov a, ov b] w fun e w' => e = .returned (.bool (decide (ltP a.a b.a))) ∧ Below w.heap.size w w' := by
  have hc := fun w' => less_any a.a b.a w'
  generalize decide (ltP a.a b.a) = r at hc ⊢
  obtain ⟨ak, ⟨a1, a2⟩, ⟨an1, an2⟩, ⟨ap1, ap2⟩, ad, aS, ava, avn, avc, ab⟩ := a
  obtain ⟨bk, ⟨b1, b2⟩, ⟨bn1, bn2⟩, ⟨bp1, bp2⟩, bd, bS, bva, bvn, bvc, bb⟩ := b
  unfold ov oc
  unfold sv at hc
  dsimp only at hc ⊢
  go_enter Try.func24, Try.ntmps24
  go_wp2_with (go_at_call 55; go_must (refine (hc _).mono ?_; rintro e w1 ⟨rfl, hb⟩))
  go_ret
  exact ⟨rfl, (balloc (balloc (Below.refl _ w) _) _).trans (hb.mono (by simp; omega))⟩
def sameAt (a b : S) : Bool := a.1 == b.1 && a.2 == b.2
theorem sameAt_iff (a b : S) : sameAt a b = true ↔ a = b := by
  obtain ⟨a1, a2⟩ := a
  obtain ⟨b1, b2⟩ := b
  simp [sameAt]
theorem together52 (a b : OpT) (w : World) : Calls Try.prog 52 #[ov a, ov b] w fun e w' => e = .returned (.bool (sameAt a.a b.a)) ∧ Below w.heap.size w w' := by
  obtain ⟨ak, ⟨a1, a2⟩, ⟨an1, an2⟩, ⟨ap1, ap2⟩, ad, aS, ava, avn, avc, ab⟩ := a
  obtain ⟨bk, ⟨b1, b2⟩, ⟨bn1, bn2⟩, ⟨bp1, bp2⟩, bd, bS, bva, bvn, bvc, bb⟩ := b
  unfold ov oc
  have hs : sameAt (a1, a2) (b1, b2) = (a1 == b1 && a2 == b2) := rfl
  have HS : Hid (sameAt (a1, a2) (b1, b2) = (a1 == b1 && a2 == b2)) := hs
  clear hs
  dsimp only
  go_enter Try.func52, Try.ntmps52
  go_wp2
  all_goals
    go_ret
    refine ⟨ret_bool ?_, balloc (balloc (Below.refl _ w) _) _⟩
    rw [HS.out]
    (try simp [*])
end Go.Proofs.Ytcchokedfbogfaa
