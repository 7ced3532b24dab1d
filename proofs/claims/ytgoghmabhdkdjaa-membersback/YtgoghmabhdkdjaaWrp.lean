/-
  What the program asks of wraps and members: wrapped, with its closures.
-/
import Derived.Test.YtgoghmabhdkdjaaIns
namespace Go.Proofs.Ytgoghmabhdkdjaa
set_option linter.unusedVariables false
set_option linter.unusedSimpArgs false
set_option synthInstance.maxSize 20000
set_option maxHeartbeats 2000000
set_option maxRecDepth 20000
open Go.RowKit Go.Maps

def sameW (m : Mb) (q : Wp) : Bool := decide (q.w = m.w)
def wrapM (ws : List Wp) (now : List Mb) : Bool := !(ws.any fun q => !(now.any (atW q.w))) && !(now.any fun m => !(ws.any (sameW m)))
theorem enter71 : ∀ args w, (callFunc 71 args).run Try.prog w = .ok (.enter 71 args) w := Go.Proofs.enters_of Try.func71 (by kernel_rfl) rfl
theorem enter72 : ∀ args w, (callFunc 72 args).run Try.prog w = .ok (.enter 72 args) w := Go.Proofs.enters_of Try.func72 (by kernel_rfl) rfl
theorem enter74 : ∀ args w, (callFunc 74 args).run Try.prog w = .ok (.enter 74 args) w := Go.Proofs.enters_of Try.func74 (by kernel_rfl) rfl
theorem any_map {α β : Type} (l : List (α × β)) (p : α → Bool) : (l.map (·.1)).any p = l.any (fun q => p q.1) := by rw [List.any_map]; rfl
theorem same74 (q : Wq) (m : Mb) (w : World) (b : Nat) (hq : ∃ a n c, q.2 = .slice a n c) (hb : Blk w b 51 (mc m)) : Calls Try.prog 74 #[wv q, ptr b] w fun r w' => r = .returned (.bool (sameW m q.1)) ∧ Below w.heap.size w w' := by
  obtain ⟨⟨x, bs⟩, bv⟩ := q
  obtain ⟨a, n, c, hq⟩ := hq
  dsimp only at hq
  subst hq
  obtain ⟨x0, x1, x2, x3, x4⟩ := m
  unfold wv sameW
  dsimp only
  have k0 := (hb.alloc (.cells #[.int .i64 x, .slice a n c] 81)).cell 0 _ rfl
  clear hb
  go_enter Try.func74, Try.ntmps74
  go_wp2
  go_ret
  refine ⟨?_, balloc (Below.refl _ _) _⟩
  first | rfl | exact ret_bool (by simp)
theorem none71 (q : Wq) {nv : Value} {now : List Mb} (w : World) (b : Nat) (hq : ∃ a n c, q.2 = .slice a n c) (hb : Blk w b 26 [nv]) (hn : RowF mc w nv now) : Calls Try.prog 71 #[wv q, ptr b] w fun r w' => r = .returned (.bool (!(now.any (atW q.1.w)))) ∧ Below w.heap.size w w' := by
  obtain ⟨⟨x, bs⟩, bv⟩ := q
  obtain ⟨a, n, c, hq⟩ := hq
  dsimp only at hq
  subst hq
  obtain ⟨an, cn, rfl⟩ := hn.len
  have HP : Hid (Calls Try.prog 38 #[.slice an now.length cn, .int .i64 x] (w.alloc (.cells #[.int .i64 x, .slice a n c] 81)) fun r w' => r = .returned (.int .i64 (idxG (atW x) now)) ∧ Below w.heap.size w w') :=
    (show Calls _ _ _ _ _ from (place38 (hn.below (balloc (Below.refl _ _) (.cells #[.int .i64 x, .slice a n c] 81))) x).mono fun r w' h => ⟨h.1, bnext (balloc (Below.refl _ _) _) h.2⟩)
  have k0 := (hb.alloc (.cells #[.int .i64 x, .slice a n c] 81)).cell 0 _ rfl
  have HA : Hid (decide (0 ≤ idxG (atW x) now) = now.any (atW x)) := idxG_any _ _
  unfold wv
  dsimp only
  generalize idxG (atW x) now = y at *
  generalize now.any (atW x) = z at *
  clear hb hn
  go_enter Try.func71, Try.ntmps71
  go_wp2_with (go_at_call 38; go_must (refine HP.out.mono ?_; rintro r w2 ⟨rfl, hb2⟩))
  go_ret
  refine ⟨?_, hb2⟩
  rw [← HA.out]
  refine ret_bool ?_
  simp
theorem left72 (m : Mb) {qv : Value} {qs : List Wq} (w : World) (b : Nat) (hb : Blk w b 35 [qv]) (hq : RowF wq w qv qs) (hr : ∀ q ∈ qs, Rd w q.2 q.1.b) : Calls Try.prog 72 #[mv m, ptr b] w fun r w' => r = .returned (.bool (!(qs.any (fun q => sameW m q.1)))) ∧ Below w.heap.size w w' := by
  obtain ⟨an, cn, rfl⟩ := hq.len
  have HC : Hid (Calls Try.prog 73 #[.slice an qs.length cn, .func (.func 74) #[] #[ptr w.heap.size]] (w.alloc (.cells (mc m).toArray 51)) fun r w' => r = .returned (.bool (qs.any (fun q => sameW m q.1))) ∧ Below w.heap.size w w') := by
    refine (any73 (hq.below (balloc (Below.refl _ _) (.cells (mc m).toArray 51))) (fun q => sameW m q.1) 74 #[ptr w.heap.size] enter74 (fun w' q hb' hm => ?_)).mono ?_
    · obtain ⟨a, c, e⟩ := (hr q hm).len
      exact same74 q m w' w.heap.size ⟨a, _, c, e⟩ ((blk_new w (mc m) 51).below hb')
    · rintro r w' ⟨rfl, hb'⟩
      exact ⟨rfl, bnext (balloc (Below.refl _ _) _) hb'⟩
  have k0 := (hb.alloc (.cells (mc m).toArray 51)).cell 0 _ rfl
  generalize qs.any (fun q => sameW m q.1) = z at *
  obtain ⟨x0, x1, x2, x3, x4⟩ := m
  have HC2 : Hid (Calls Try.prog 73 #[.slice an qs.length cn, .func (.func 74) #[] #[ptr w.heap.size]] (w.alloc (.cells #[.int .i64 x0, .int .u64 x1, .int .i64 x2, .int .i64 x3, .int .i64 x4] 51)) fun r w' => r = .returned (.bool z) ∧ Below w.heap.size w w') := HC
  unfold mv
  unfold mc at k0
  dsimp only at *
  clear hb hq hr HC
  go_enter Try.func72, Try.ntmps72
  go_wp2_with (go_at_call 73; go_must (refine HC2.out.mono ?_; rintro r w2 ⟨rfl, hb2⟩))
  go_ret
  exact ⟨rfl, hb2⟩
theorem wrapped57 {w : World} {qv nv : Value} {qs : List Wq} {now : List Mb} (hq : RowF wq w qv qs) (hr : ∀ q ∈ qs, Rd w q.2 q.1.b) (hn : RowF mc w nv now) : Calls Try.prog 57 #[qv, nv] w fun r w' => r = .returned (.bool (wrapM (qs.map (·.1)) now)) ∧ Below w.heap.size w w' := by
  obtain ⟨aq, cq, rfl⟩ := hq.len
  obtain ⟨an, cn, rfl⟩ := hn.len
  obtain ⟨w1, hw1⟩ : ∃ w1, w1 = (w.alloc (.cells #[.slice aq qs.length cq] 35)).alloc (.cells #[.slice an now.length cn] 26) := ⟨_, rfl⟩
  have hb1 : Below w.heap.size w w1 := by rw [hw1]; exact balloc2 _ _ _
  have X0 : Blk w1 w.heap.size 35 [.slice aq qs.length cq] := by rw [hw1]; exact blk2_0 w [.slice aq qs.length cq] [.slice an now.length cn] 35 26
  have X1 : Blk w1 (w.heap.size + 1) 26 [.slice an now.length cn] := by rw [hw1]; exact blk2_1 w [.slice aq qs.length cq] [.slice an now.length cn] 35 26
  have HA : Hid (Calls Try.prog 73 #[.slice aq qs.length cq, .func (.func 71) #[] #[ptr (w.heap.size + 1)]] w1 fun r w' => r = .returned (.bool (qs.any (fun q => !(now.any (atW q.1.w))))) ∧ Below w1.heap.size w1 w') :=
    (show Calls _ _ _ _ _ from any73 (hq.below hb1) (fun q => !(now.any (atW q.1.w))) 71 #[ptr (w.heap.size + 1)] enter71 (fun w' q hb' hm => by
      obtain ⟨a, c, e⟩ := (hr q hm).len
      exact none71 q w' (w.heap.size + 1) ⟨a, _, c, e⟩ (X1.below hb') ((hn.below hb1).below hb')))
  have HBb : Hid (∀ w2, Below w1.heap.size w1 w2 → Calls Try.prog 75 #[.slice an now.length cn, .func (.func 72) #[] #[ptr w.heap.size]] w2 fun r w' => r = .returned (.bool (now.any (fun m => !(qs.any (fun q => sameW m q.1))))) ∧ Below w2.heap.size w2 w') := fun w2 h2 =>
    any75 ((hn.below hb1).below h2) (fun m => !(qs.any (fun q => sameW m q.1))) 72 #[ptr w.heap.size] enter72 (fun w' m hb' hm => 
      left72 m w' w.heap.size ((X0.below h2).below hb') (((hq.below hb1).below h2).below hb') (fun q hq' => (((hr q hq').below hb1).below h2).below hb'))
  have HK : Hid (∀ w2, Below w1.heap.size w1 w2 → w2.cell? ⟨w.heap.size + 1, 0, none⟩ = some (.slice an now.length cn)) := fun w2 h2 => (X1.below h2).cell 0 _ rfl
  have HW : Hid (wrapM (qs.map (·.1)) now = (!(qs.any (fun q => !(now.any (atW q.1.w)))) && !(now.any (fun m => !(qs.any (fun q => sameW m q.1)))))) := (show _ = _ by
    unfold wrapM
    rw [any_map]
    congr 3
    funext m
    rw [any_map])
  rw [HW.out]
  generalize qs.any (fun q => !(now.any (atW q.1.w))) = y at *
  generalize now.any (fun m => !(qs.any (fun q => sameW m q.1))) = z at *
  have x0 := X0.cell 0 _ rfl
  have HB1 : Hid (Below w.heap.size w w1) := hb1
  have HW1 : Hid (w1 = (w.alloc (.cells #[.slice aq qs.length cq] 35)).alloc (.cells #[.slice an now.length cn] 26)) := hw1
  clear hq hr hn hw1 hb1 X0 X1 HW
  cases y
  · go_enter Try.func57, Try.ntmps57
    go_upto_region 1 with fail
    rw [← HW1.out]
    go_wp2_with (first
      | (go_at_call 73; go_must (refine HA.out.mono ?_; rintro r w2 ⟨rfl, hb2⟩; have k0 := HK.out w2 hb2))
      | (go_at_call 75; go_must (refine (HBb.out _ hb2).mono ?_; rintro r w3 ⟨rfl, hb3⟩)))
    go_ret
    exact ⟨by first | rfl | exact ret_bool (by simp), bnext (bnext HB1.out hb2) hb3⟩
  · go_enter Try.func57, Try.ntmps57
    go_upto_region 1 with fail
    rw [← HW1.out]
    go_wp2_with (first
      | (go_at_call 73; go_must (refine HA.out.mono ?_; rintro r w2 ⟨rfl, hb2⟩; have k0 := HK.out w2 hb2)))
    go_ret
    exact ⟨by first | rfl | exact ret_bool (by simp), bnext HB1.out hb2⟩
end Go.Proofs.Ytgoghmabhdkdjaa
