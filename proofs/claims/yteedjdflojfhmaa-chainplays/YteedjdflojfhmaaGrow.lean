/-
  Accept; owners that are new.
-/
import Derived.Test.YteedjdflojfhmaaAdd
namespace Go.Proofs.Yteedjdflojfhmaa
set_option linter.unusedVariables false
set_option linter.unusedSimpArgs false
set_option synthInstance.maxSize 20000
set_option maxHeartbeats 2000000
set_option maxRecDepth 20000
open Go.RowKit Go.Maps

/-- An owner that has no block yet. -/
theorem fresh_owner (w : World) (o : Nat → Nat) (j : Nat) : ∃ c, 1 < c ∧ j < c ∧ ∀ k, k < w.heap.size → o k ≠ c := by
  have key : ∀ n : Nat, ∃ c, 1 < c ∧ j < c ∧ ∀ k, k < n → o k < c := by
    intro n
    induction n with
    | zero => exact ⟨j + 2, by omega, by omega, fun k hk => by omega⟩
    | succ n ih =>
      obtain ⟨c, h1, h2, h3⟩ := ih
      refine ⟨max c (o n + 1), by omega, by omega, fun k hk => ?_⟩
      by_cases e : k = n
      · subst e; omega
      · have := h3 k (by omega); omega
  obtain ⟨c, h1, h2, h3⟩ := key w.heap.size
  exact ⟨c, h1, h2, fun k hk e => by have := h3 k hk; omega⟩
theorem Mv.restrict {I : List Nat} {c : Nat} {w w' : World} {o o' : Nat → Nat} (h : Mv (c :: I) w o w' o') (hc : ∀ k, k < w.heap.size → o k ≠ c) : Mv I w o w' o' :=
  ⟨h.os, h.tape, h.output, h.size, h.ext, fun k hk hn => h.block k hk (fun e => by
    rcases List.mem_cons.1 e with r | r
    · exact hc k hk r
    · exact hn r)⟩
theorem Kp0.turn1 {w w' : World} {o : Nat → Nat} {x : Value} {l : List Int} {ft : List Nat} (h : Kp0 w o x l) (hf : ∀ k ∈ ft, o k = 1) (ht : Turn ft w w') : Rd w' x l :=
  h.1.blocks fun hl k hk hlt => ht.block k hlt (fun e => by have h1 := hf k e; rw [h.2 hl k hk] at h1; omega)

theorem accept_any {w : World} {o : Nat → Nat} {j la b : Nat} {S : St} {W p : Int} {L : Lg} {e : Ent} {x : Value} (hO : OrcAt w o b S) (hL : LogIs w o j la b W p L) (hj0 : j ≠ 0) (hj1 : j ≠ 1) (he : EOk e) (hx : Kp0 w o x e.b) (hlen : e.b.length ≤ 90000) (hN : S.rows.length + 1 < 1000000000) :
    Calls Try.prog 25 #[ptr la, ev e x] w fun r w' => r = .returned (.int .i64 (acceptM S W p L e).1) ∧ ∃ o', OrcAt w' o' b (acceptM S W p L e).2.1 ∧ LogIs w' o' j la b W p (acceptM S W p L e).2.2 ∧ Mv [1, j] w o w' o' := by
  have CK := fun w' (hb : Below w.heap.size w w') => check_any (S := S) (e := e) (x := x) ⟨hL.mv (Mv.of_below (I := []) 0 hb) (by simp) (by simp), hO.mv (Mv.of_below (I := []) 0 hb) (by simp), he, hx.1.below hb, hlen⟩ hj0
  have AD := fun w' (hb : Below w.heap.size w w') (hk : checkM S W p L e = 0) => add_any (S := S) (e := e) (x := x) (hO.mv (Mv.of_below (I := []) 0 hb) (by simp)) (hL.mv (Mv.of_below (I := []) 0 hb) (by simp) (by simp)) hj0 hj1 he (hx.mv (Mv.of_below (I := []) 0 hb) (by simp)) ((rightB_iff e).2 ((check_zero S W p L e).1 hk).1) (by
    have h1 := ((check_zero S W p L e).1 hk)
    have h2 := h1.1.2.1
    have h3 := h1.2.2.2.1
    omega) hN
  have KO := fun w' (hb : Below w.heap.size w w') => (⟨_, hO.mv (Mv.of_below (I := []) 0 hb) (by simp), hL.mv (Mv.of_below (I := []) 0 hb) (by simp) (by simp), Mv.of_below 0 hb⟩ : ∃ o', OrcAt w' o' b S ∧ LogIs w' o' j la b W p L ∧ Mv [1, j] w o w' o')
  unfold acceptM
  generalize hK : checkM S W p L e = K at *
  obtain ⟨a, cap, rfl⟩ := hx.1.len
  by_cases hk0 : K = 0
  · subst hk0
    rw [if_pos rfl]
    have AD' : ∀ w', Below w.heap.size w w' → Calls Try.prog 46 #[ptr la, ev e (.slice a e.b.length cap)] w' fun r w'' => r = .returned (.int .i64 0) ∧ ∃ o', OrcAt w'' o' b (addM S L e).1 ∧ LogIs w'' o' j la b W p (addM S L e).2 ∧ Mv [1, j] w o w'' o' := fun w' hb => (AD w' hb rfl).mono (fun r w'' ⟨h0, o', h1, h2, h3⟩ => ⟨h0, o', h1, h2, (Mv.of_below 0 hb).trans h3⟩)
    generalize addM S L e = t at *
    obtain ⟨ew, ei, ep, et, eu, en, eb, eg⟩ := e
    unfold ev at *
    dsimp only at *
    have HCK : Hid (∀ w', Below w.heap.size w w' → Calls Try.prog 23 #[ptr la, .agg #[.int .i64 ew, .int .i64 ei, .int .u64 ep, .int .i64 et, .int .i64 eu, .int .i64 en, .slice a eb.length cap, .int .u64 eg]] w' fun r w'' => r = .returned (.int .i64 0) ∧ Below w'.heap.size w' w'') := CK
    have HAD : Hid (∀ w', Below w.heap.size w w' → Calls Try.prog 46 #[ptr la, .agg #[.int .i64 ew, .int .i64 ei, .int .u64 ep, .int .i64 et, .int .i64 eu, .int .i64 en, .slice a eb.length cap, .int .u64 eg]] w' fun r w'' => r = .returned (.int .i64 0) ∧ ∃ o', OrcAt w'' o' b t.1 ∧ LogIs w'' o' j la b W p t.2 ∧ Mv [1, j] w o w'' o') := AD'
    have HX1 : Hid (∀ w', Below (w.alloc (.cells #[.int .i64 ew, .int .i64 ei, .int .u64 ep, .int .i64 et, .int .i64 eu, .int .i64 en, .slice a eb.length cap, .int .u64 eg] 47)).heap.size (w.alloc (.cells #[.int .i64 ew, .int .i64 ei, .int .u64 ep, .int .i64 et, .int .i64 eu, .int .i64 en, .slice a eb.length cap, .int .u64 eg] 47)) w' → Blk w' w.heap.size 47 [.int .i64 ew, .int .i64 ei, .int .u64 ep, .int .i64 et, .int .i64 eu, .int .i64 en, .slice a eb.length cap, .int .u64 eg]) := fun w' h => (blk_new w [.int .i64 ew, .int .i64 ei, .int .u64 ep, .int .i64 et, .int .i64 eu, .int .i64 en, .slice a eb.length cap, .int .u64 eg] 47).below h
    clear CK AD AD' KO hK hO hL hx
    go_enter Try.func25, Try.ntmps25
    go_wp2_with (first
      | (go_at_call 23; go_must (refine (HCK.out _ (balloc (Below.refl _ _) _)).mono ?_; rintro r w2 ⟨rfl, hb2⟩; have Y := HX1.out _ hb2; have y0 := Y.cell 0 _ rfl; have y1 := Y.cell 1 _ rfl; have y2 := Y.cell 2 _ rfl; have y3 := Y.cell 3 _ rfl; have y4 := Y.cell 4 _ rfl; have y5 := Y.cell 5 _ rfl; have y6 := Y.cell 6 _ rfl; have y7 := Y.cell 7 _ rfl))
      | (go_at_call 46; go_must (refine (HAD.out _ (bnext (balloc (Below.refl _ _) _) hb2)).mono ?_; rintro r w3 ⟨rfl, h3⟩)))
    go_ret
    exact ⟨rfl, h3⟩
  · rw [if_neg hk0]
    have hk1 : (K != 0) = true := by simpa using hk0
    obtain ⟨ew, ei, ep, et, eu, en, eb, eg⟩ := e
    unfold ev at *
    dsimp only at *
    have HCK : Hid (∀ w', Below w.heap.size w w' → Calls Try.prog 23 #[ptr la, .agg #[.int .i64 ew, .int .i64 ei, .int .u64 ep, .int .i64 et, .int .i64 eu, .int .i64 en, .slice a eb.length cap, .int .u64 eg]] w' fun r w'' => r = .returned (.int .i64 K) ∧ Below w'.heap.size w' w'') := CK
    have HKO : Hid (∀ w', Below w.heap.size w w' → ∃ o', OrcAt w' o' b S ∧ LogIs w' o' j la b W p L ∧ Mv [1, j] w o w' o') := KO
    clear CK AD KO hK hO hL hx hk0
    go_enter Try.func25, Try.ntmps25
    go_wp2_with (go_at_call 23; go_must (refine (HCK.out _ (balloc (Below.refl _ _) _)).mono ?_; rintro r w2 ⟨rfl, hb2⟩))
    go_ret
    exact ⟨rfl, HKO.out _ (bnext (balloc (Below.refl _ _) _) hb2)⟩

theorem accept_nil (w : World) (e : Ent) (x : Value) (hx : Rd w x e.b) : Calls Try.prog 25 #[.pointer none, ev e x] w fun r w' => r = .returned (.int .i64 23) ∧ Below w.heap.size w w' := by
  have HV : Hid (Rd w x e.b) := hx
  have CK := fun w' (hx : Rd w' x e.b) => check_nil w' x e x hx
  obtain ⟨a, cap, rfl⟩ := hx.len
  obtain ⟨ew, ei, ep, et, eu, en, eb, eg⟩ := e
  unfold ev at *
  dsimp only at *
  have HCK : Hid (∀ w', Rd w' (.slice a eb.length cap) eb → Calls Try.prog 23 #[.pointer none, .agg #[.int .i64 ew, .int .i64 ei, .int .u64 ep, .int .i64 et, .int .i64 eu, .int .i64 en, .slice a eb.length cap, .int .u64 eg]] w' fun r w'' => r = .returned (.int .i64 23) ∧ Below w'.heap.size w' w'') := CK
  clear CK hx
  go_enter Try.func25, Try.ntmps25
  go_wp2_with (go_at_call 23; go_must (refine (HCK.out _ (HV.out.below (balloc (Below.refl _ _) _))).mono ?_; rintro r w2 ⟨rfl, hb2⟩))
  go_ret
  exact ⟨rfl, bnext (balloc (Below.refl _ _) _) hb2⟩
end Go.Proofs.Yteedjdflojfhmaa
