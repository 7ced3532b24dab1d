/-
  Who is there: revoked, counts, unless, place, Find, Now, New, May of the program.
-/
import Derived.Test.YtgoghmabhdkdjaaIdx
namespace Go.Proofs.Ytgoghmabhdkdjaa
set_option linter.unusedVariables false
set_option linter.unusedSimpArgs false
set_option synthInstance.maxSize 20000
set_option maxHeartbeats 2000000
set_option maxRecDepth 20000
open Go.RowKit Go.Maps

theorem blk2_0 (w : World) (c d : List Value) (e1 e2 : TypeId) : Blk ((w.alloc (.cells c.toArray e1)).alloc (.cells d.toArray e2)) w.heap.size e1 c := (blk_new w c e1).alloc _
theorem blk2_1 (w : World) (c d : List Value) (e1 e2 : TypeId) : Blk ((w.alloc (.cells c.toArray e1)).alloc (.cells d.toArray e2)) (w.heap.size + 1) e2 d := by
  have := heap_alloc_new (w.alloc (.cells c.toArray e1)) (.cells d.toArray e2)
  simpa [Blk] using this
theorem balloc2 (w : World) (o1 o2 : Obj) : Below w.heap.size w ((w.alloc o1).alloc o2) := balloc (balloc (Below.refl _ _) _) _
theorem results_cell1 {fn : Func} {p : Tmp} {ty : TypeId} (h : fn.results = #[.cell p ty]) (tmps : Array Value) (P : Program) (w : World) : (results fn tmps).run P w = ((asAddr (tmps.getD p undef)).run P w).andThen fun a w₁ => (loadVar ty a).run P w₁ := by
  simp only [results, h]
  simp [Sem.run_bind, Result.andThen]

theorem revoked39 (m : Mb) (w : World) : Calls Try.prog 39 #[mv m] w fun r w' => r = .returned (.bool (!on m)) ∧ Below w.heap.size w w' := by
  obtain ⟨a, b, c, d, e⟩ := m
  unfold mv on
  dsimp only
  have H : Hid (∀ x : Int, (x != -1) = !decide (x = -1)) := fun x => by by_cases h : x = -1 <;> simp [h]
  go_enter Try.func39, Try.ntmps39
  go_wp2
  go_ret
  refine ⟨?_, balloc (Below.refl _ _) _⟩
  rw [← H.out]
  rfl

theorem unless40 (b : Bool) (k : Int) (w : World) : Calls Try.prog 40 #[.bool b, .int .i64 k] w fun r w' => r = .returned (.int .i64 (if b = true then 0 else k)) ∧ w' = w := by
  cases b
  all_goals
    go_enter Try.func40, Try.ntmps40
    go_wp2
    go_ret
    exact ⟨rfl, rfl⟩

theorem place60 (m : Mb) (who : Int) (w : World) (b : Nat) (hb : Blk w b 3 [.int .i64 who]) : Calls Try.prog 60 #[mv m, ptr b] w fun r w' => r = .returned (.bool (atW who m)) ∧ Below w.heap.size w w' := by
  obtain ⟨x0, x1, x2, x3, x4⟩ := m
  unfold mv atW
  dsimp only
  have k0 := (hb.alloc (.cells #[.int .i64 x0, .int .u64 x1, .int .i64 x2, .int .i64 x3, .int .i64 x4] 51)).cell 0 _ rfl
  clear hb
  go_enter Try.func60, Try.ntmps60
  go_wp2
  go_ret
  refine ⟨?_, balloc (Below.refl _ _) _⟩
  first | rfl | exact ret_bool (by simp)

def overW (who : Int) (m : Mb) : Bool := decide (who < m.w)
theorem room70 (m : Mb) (who : Int) (w : World) (b : Nat) (hb : Blk w b 3 [.int .i64 who]) : Calls Try.prog 70 #[mv m, ptr b] w fun r w' => r = .returned (.bool (overW who m)) ∧ Below w.heap.size w w' := by
  obtain ⟨x0, x1, x2, x3, x4⟩ := m
  unfold mv overW
  dsimp only
  have k0 := (hb.alloc (.cells #[.int .i64 x0, .int .u64 x1, .int .i64 x2, .int .i64 x3, .int .i64 x4] 51)).cell 0 _ rfl
  clear hb
  go_enter Try.func70, Try.ntmps70
  go_wp2
  go_ret
  refine ⟨?_, balloc (Below.refl _ _) _⟩
  first | rfl | exact ret_bool (by simp)

theorem enter60 : ∀ args w, (callFunc 60 args).run Try.prog w = .ok (.enter 60 args) w := Go.Proofs.enters_of Try.func60 (by kernel_rfl) rfl
theorem enter70 : ∀ args w, (callFunc 70 args).run Try.prog w = .ok (.enter 70 args) w := Go.Proofs.enters_of Try.func70 (by kernel_rfl) rfl

theorem place38 {w : World} {v : Value} {l : List Mb} (hv : RowF mc w v l) (who : Int) : Calls Try.prog 38 #[v, .int .i64 who] w fun r w' => r = .returned (.int .i64 (idxG (atW who) l)) ∧ Below w.heap.size w w' := by
  have HC : Hid (Calls Try.prog 59 #[v, .func (.func 60) #[] #[ptr w.heap.size]] (w.alloc (.cells #[.int .i64 who] 3)) fun r w' => r = .returned (.int .i64 (idxG (atW who) l)) ∧ Below w.heap.size w w') := by
    refine (idx59 (hv.below (balloc (Below.refl _ _) _)) (atW who) 60 #[ptr w.heap.size] enter60 (fun w' m hb hm => ?_)).mono ?_
    · exact place60 m who w' w.heap.size ((blk_new w [.int .i64 who] 3).below hb)
    · rintro r w' ⟨rfl, hb⟩
      exact ⟨rfl, bnext (balloc (Below.refl _ _) _) hb⟩
  obtain ⟨av, cap, rfl⟩ := hv.len
  generalize idxG (atW who) l = x at *
  clear hv
  go_enter Try.func38, Try.ntmps38
  go_wp2_with (go_at_call 59; go_must (refine HC.out.mono ?_; rintro r w2 ⟨rfl, hb2⟩))
  go_ret
  exact ⟨rfl, hb2⟩

theorem idxG_find {l : List Mb} {p : Mb → Bool} : (l.find? p = none ∧ idxG p l = -1) ∨ ∃ (i : Nat) (m : Mb), l.find? p = some m ∧ idxG p l = (i : Int) ∧ l[i]? = some m ∧ p m = true ∧ ∀ (j : Nat) (x : Mb), j < i → l[j]? = some x → p x = false := by
  cases e : l.findIdx? p with
  | none =>
    left
    refine ⟨?_, by unfold idxG; rw [e]⟩
    rw [List.findIdx?_eq_none_iff] at e
    rw [List.find?_eq_none]
    intro x hx
    rw [e x hx]
    simp
  | some i =>
    right
    obtain ⟨h1, h2, h3⟩ := List.findIdx?_eq_some_iff_getElem.1 e
    refine ⟨i, l[i], ?_, by unfold idxG; rw [e], List.getElem?_eq_getElem h1, h2, fun j x hj hx => ?_⟩
    · rw [List.find?_eq_some_iff_getElem]
      exact ⟨h2, i, h1, rfl, fun j hj => by simpa using h3 j hj⟩
    · have := h3 j hj
      have hx2 := (List.getElem?_eq_some_iff.1 hx).2
      rw [← hx2]
      simpa using this
end Go.Proofs.Ytgoghmabhdkdjaa
