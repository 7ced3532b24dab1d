/-
  What the program asks of wraps and members: wrapped, with its closures.
  A turn: its block, and what begin and revoke do.
-/
import Derived.Test.YtjbpfhnagiacmaaGreatIns
namespace Go.Proofs.YtjbpfhnagiacmaaGreat
section
set_option linter.unusedVariables false
set_option linter.unusedSimpArgs false
set_option synthInstance.maxSize 20000
set_option maxHeartbeats 2000000
set_option maxRecDepth 20000
open Go.RowKit Go.Maps
def sameW (m : Mb) (q : Wp) : Bool := decide (q.w = m.w)
def wrapM (ws : List Wp) (now : List Mb) : Bool := !(ws.any fun q => !(now.any (atW q.w))) && !(now.any fun m => !(ws.any (sameW m)))
theorem enter71 : ∀ args w, (callFunc 126 args).run Tryz.prog w = .ok (.enter 126 args) w := Go.Proofs.enters_of Tryz.func126 (by kernel_rfl) rfl
theorem enter72 : ∀ args w, (callFunc 127 args).run Tryz.prog w = .ok (.enter 127 args) w := Go.Proofs.enters_of Tryz.func127 (by kernel_rfl) rfl
theorem enter74 : ∀ args w, (callFunc 129 args).run Tryz.prog w = .ok (.enter 129 args) w := Go.Proofs.enters_of Tryz.func129 (by kernel_rfl) rfl
theorem any_map {α β : Type} (l : List (α × β)) (p : α → Bool) : (l.map (·.1)).any p = l.any (fun q => p q.1) := by rw [List.any_map]; rfl
theorem same74 (q : Wq) (m : Mb) (w : World) (b : Nat) (hq : ∃ a n c, q.2 = .slice a n c) (hb : Blk w b 116 (mc m)) : Calls Tryz.prog 129 #[wv q, ptr b] w fun r w' => r = .returned (.bool (sameW m q.1)) ∧ Below w.heap.size w w' := by
  obtain ⟨⟨x, bs⟩, bv⟩ := q
  obtain ⟨a, n, c, hq⟩ := hq
  dsimp only at hq
  subst hq
  obtain ⟨x0, x1, x2, x3, x4⟩ := m
  unfold wv sameW
  dsimp only
  have k0 := (hb.alloc (.cells #[.int .i64 x, .slice a n c] 158)).cell 0 _ rfl
  clear hb
  go_enter Tryz.func129, Tryz.ntmps129
  go_wp2
  go_ret
  refine ⟨?_, balloc (Below.refl _ _) _⟩
  first | rfl | exact ret_bool (by simp)
theorem none71 (q : Wq) {nv : Value} {now : List Mb} (w : World) (b : Nat) (hq : ∃ a n c, q.2 = .slice a n c) (hb : Blk w b 65 [nv]) (hn : RowF mc w nv now) : Calls Tryz.prog 126 #[wv q, ptr b] w fun r w' => r = .returned (.bool (!(now.any (atW q.1.w)))) ∧ Below w.heap.size w w' := by
  obtain ⟨⟨x, bs⟩, bv⟩ := q
  obtain ⟨a, n, c, hq⟩ := hq
  dsimp only at hq
  subst hq
  obtain ⟨an, cn, rfl⟩ := hn.len
  have HP : Hid (Calls Tryz.prog 103 #[.slice an now.length cn, .int .i64 x] (w.alloc (.cells #[.int .i64 x, .slice a n c] 158)) fun r w' => r = .returned (.int .i64 (idxG (atW x) now)) ∧ Below w.heap.size w w') :=
    (show Calls _ _ _ _ _ from (place38 (hn.below (balloc (Below.refl _ _) (.cells #[.int .i64 x, .slice a n c] 158))) x).mono fun r w' h => ⟨h.1, bnext (balloc (Below.refl _ _) _) h.2⟩)
  have k0 := (hb.alloc (.cells #[.int .i64 x, .slice a n c] 158)).cell 0 _ rfl
  have HA : Hid (decide (0 ≤ idxG (atW x) now) = now.any (atW x)) := idxG_any _ _
  unfold wv
  dsimp only
  generalize idxG (atW x) now = y at *
  generalize now.any (atW x) = z at *
  clear hb hn
  go_enter Tryz.func126, Tryz.ntmps126
  go_wp2_with (go_at_call 103; go_must (refine HP.out.mono ?_; rintro r w2 ⟨rfl, hb2⟩))
  go_ret
  refine ⟨?_, hb2⟩
  rw [← HA.out]
  refine ret_bool ?_
  simp
theorem left72 (m : Mb) {qv : Value} {qs : List Wq} (w : World) (b : Nat) (hb : Blk w b 73 [qv]) (hq : RowF wq w qv qs) (hr : ∀ q ∈ qs, Rd w q.2 q.1.b) : Calls Tryz.prog 127 #[mv m, ptr b] w fun r w' => r = .returned (.bool (!(qs.any (fun q => sameW m q.1)))) ∧ Below w.heap.size w w' := by
  obtain ⟨an, cn, rfl⟩ := hq.len
  have HC : Hid (Calls Tryz.prog 128 #[.slice an qs.length cn, .func (.func 129) #[] #[ptr w.heap.size]] (w.alloc (.cells (mc m).toArray 116)) fun r w' => r = .returned (.bool (qs.any (fun q => sameW m q.1))) ∧ Below w.heap.size w w') := by
    refine (any73 (hq.below (balloc (Below.refl _ _) (.cells (mc m).toArray 116))) (fun q => sameW m q.1) 129 #[ptr w.heap.size] enter74 (fun w' q hb' hm => ?_)).mono ?_
    · obtain ⟨a, c, e⟩ := (hr q hm).len
      exact same74 q m w' w.heap.size ⟨a, _, c, e⟩ ((blk_new w (mc m) 116).below hb')
    · rintro r w' ⟨rfl, hb'⟩
      exact ⟨rfl, bnext (balloc (Below.refl _ _) _) hb'⟩
  have k0 := (hb.alloc (.cells (mc m).toArray 116)).cell 0 _ rfl
  generalize qs.any (fun q => sameW m q.1) = z at *
  obtain ⟨x0, x1, x2, x3, x4⟩ := m
  have HC2 : Hid (Calls Tryz.prog 128 #[.slice an qs.length cn, .func (.func 129) #[] #[ptr w.heap.size]] (w.alloc (.cells #[.int .i64 x0, .int .u64 x1, .int .i64 x2, .int .i64 x3, .int .i64 x4] 116)) fun r w' => r = .returned (.bool z) ∧ Below w.heap.size w w') := HC
  unfold mv
  unfold mc at k0
  dsimp only at *
  clear hb hq hr HC
  go_enter Tryz.func127, Tryz.ntmps127
  go_wp2_with (go_at_call 128; go_must (refine HC2.out.mono ?_; rintro r w2 ⟨rfl, hb2⟩))
  go_ret
  exact ⟨rfl, hb2⟩
theorem wrapped57 {w : World} {qv nv : Value} {qs : List Wq} {now : List Mb} (hq : RowF wq w qv qs) (hr : ∀ q ∈ qs, Rd w q.2 q.1.b) (hn : RowF mc w nv now) : Calls Tryz.prog 107 #[qv, nv] w fun r w' => r = .returned (.bool (wrapM (qs.map (·.1)) now)) ∧ Below w.heap.size w w' := by
  obtain ⟨aq, cq, rfl⟩ := hq.len
  obtain ⟨an, cn, rfl⟩ := hn.len
  obtain ⟨w1, hw1⟩ : ∃ w1, w1 = (w.alloc (.cells #[.slice aq qs.length cq] 73)).alloc (.cells #[.slice an now.length cn] 65) := ⟨_, rfl⟩
  have hb1 : Below w.heap.size w w1 := by rw [hw1]; exact balloc2 _ _ _
  have X0 : Blk w1 w.heap.size 73 [.slice aq qs.length cq] := by rw [hw1]; exact blkM_0 w [.slice aq qs.length cq] [.slice an now.length cn] 73 65
  have X1 : Blk w1 (w.heap.size + 1) 65 [.slice an now.length cn] := by rw [hw1]; exact blkM_1 w [.slice aq qs.length cq] [.slice an now.length cn] 73 65
  have HA : Hid (Calls Tryz.prog 128 #[.slice aq qs.length cq, .func (.func 126) #[] #[ptr (w.heap.size + 1)]] w1 fun r w' => r = .returned (.bool (qs.any (fun q => !(now.any (atW q.1.w))))) ∧ Below w1.heap.size w1 w') :=
    (show Calls _ _ _ _ _ from any73 (hq.below hb1) (fun q => !(now.any (atW q.1.w))) 126 #[ptr (w.heap.size + 1)] enter71 (fun w' q hb' hm => by
      obtain ⟨a, c, e⟩ := (hr q hm).len
      exact none71 q w' (w.heap.size + 1) ⟨a, _, c, e⟩ (X1.below hb') ((hn.below hb1).below hb')))
  have HBb : Hid (∀ w2, Below w1.heap.size w1 w2 → Calls Tryz.prog 130 #[.slice an now.length cn, .func (.func 127) #[] #[ptr w.heap.size]] w2 fun r w' => r = .returned (.bool (now.any (fun m => !(qs.any (fun q => sameW m q.1))))) ∧ Below w2.heap.size w2 w') := fun w2 h2 =>
    any75 ((hn.below hb1).below h2) (fun m => !(qs.any (fun q => sameW m q.1))) 127 #[ptr w.heap.size] enter72 (fun w' m hb' hm =>
      left72 m w' w.heap.size ((X0.below h2).below hb') (((hq.below hb1).below h2).below hb') (fun q hq' => (((hr q hq').below hb1).below h2).below hb'))
  have HK : Hid (∀ w2, Below w1.heap.size w1 w2 → w2.cell? ⟨w.heap.size + 1, 0, none⟩ = some (.slice an now.length cn)) := fun w2 h2 => (X1.below h2).cell 0 _ rfl
  have HW : Hid (wrapM (qs.map (·.1)) now = (!(qs.any (fun q => !(now.any (atW q.1.w)))) && !(now.any (fun m => !(qs.any (fun q => sameW m q.1)))))) := (show _ = _ by
    unfold wrapM
    rw [any_map]
    congr 3
    funext m
    rw [any_map])
  rw [HW.out]
  generalize qs.any (fun q => !(now.any (atW q.1.w))) = y at *
  generalize now.any (fun m => !(qs.any (fun q => sameW m q.1))) = z at *
  have x0 := X0.cell 0 _ rfl
  have HB1 : Hid (Below w.heap.size w w1) := hb1
  have HW1 : Hid (w1 = (w.alloc (.cells #[.slice aq qs.length cq] 73)).alloc (.cells #[.slice an now.length cn] 65)) := hw1
  clear hq hr hn hw1 hb1 X0 X1 HW
  cases y
  · go_enter Tryz.func107, Tryz.ntmps107
    go_upto_region 1 with fail
    rw [← HW1.out]
    go_wp2_with (first
      | (go_at_call 128; go_must (refine HA.out.mono ?_; rintro r w2 ⟨rfl, hb2⟩; have k0 := HK.out w2 hb2))
      | (go_at_call 130; go_must (refine (HBb.out _ hb2).mono ?_; rintro r w3 ⟨rfl, hb3⟩)))
    go_ret
    exact ⟨by first | rfl | exact ret_bool (by simp), bnext (bnext HB1.out hb2) hb3⟩
  · go_enter Tryz.func107, Tryz.ntmps107
    go_upto_region 1 with fail
    rw [← HW1.out]
    go_wp2_with (first
      | (go_at_call 128; go_must (refine HA.out.mono ?_; rintro r w2 ⟨rfl, hb2⟩; have k0 := HK.out w2 hb2)))
    go_ret
    exact ⟨by first | rfl | exact ret_bool (by simp), bnext HB1.out hb2⟩
end
section
set_option linter.unusedVariables false
set_option linter.unusedSimpArgs false
set_option synthInstance.maxSize 20000
set_option maxHeartbeats 2000000
set_option maxRecDepth 20000
open Go.RowKit Go.Maps
section
variable {P : Program} {C : World → Prop} {Q : Exit → Act → World → Prop} {a : Act} {w : World} {l : List Oper} {i : Nat} {o : Oper} {r : List (Bool × Nat)}
theorem ord_shut (hi : l[i]? = some o) (hw : Region.wanted o (yielded l.toArray a.tmps) = false) (h : wpQuiet P l.toArray C (fun a' => wpOrd P l.toArray C Q (pickOrd l r) a' w) [o] a) : wpOrd P l.toArray C Q (pickOrd l ((false, i) :: r)) a w := by
  rw [pickOrd_cons hi]
  show stepOp P l.toArray C false o (wpOrd P l.toArray C Q (pickOrd l r)) a w
  unfold stepOp
  rw [if_neg (by simp)]
  unfold wpQuiet at h
  rw [if_neg (by rw [hw]; simp)] at h
  exact ⟨undef, .inr ⟨hw, rfl⟩, h⟩
end
def tc (lv : Value) (e : Int) (c : Cg) (a b : Value) : List Value := [lv, .int .i64 e, .int .i64 c.k, .int .i64 c.w, .int .u64 c.p, .int .i64 c.l, a, b]
theorem first56 {w : World} {tb : Nat} {lv a b : Value} {e : Int} {c : Cg} (h : Blk w tb 132 (tc lv e c a b)) : Calls Tryz.prog 106 #[ptr tb] w fun r w' => r = .returned (.bool (decide (e = -1))) ∧ w' = w := by
  have k1 := h.cell 1 _ rfl
  clear h
  go_enter Tryz.func106, Tryz.ntmps106
  go_wp2
  go_ret
  exact ⟨by first | rfl | exact ret_bool (by simp), rfl⟩
def begK (l : List Mb) (e : Int) (c : Cg) : Int := if 19 ≤ e then 2 else if wrapM c.ws (nowM l) && (decide (0 < c.o.length) != decide (e = -1)) then 0 else 10
theorem begin35 {w : World} {tb B : Nat} {lv a b : Value} {e : Int} {c : Cg} {l : List Mb} {qs : List Wq} (h : Blk w tb 132 (tc lv e c a b)) (hl : RowF mc w lv l) (hc : CgAt w c a b qs) (hlen : l.length ≤ 1000) (hB : B ≤ tb) (hBw : B ≤ w.heap.size) (he : EOk e) :
    Calls Tryz.prog 66 #[ptr tb] w fun r w' => r = .returned (.int .i64 (begK l e c)) ∧ Blk w' tb 132 (tc lv (if begK l e c = 0 then e + 1 else e) c a b) ∧ Below B w w' ∧ (∀ k, k < w.heap.size → k ≠ tb → w'.heap[k]? = w.heap[k]?) := by
  obtain ⟨al, cl, rfl⟩ := hl.len
  obtain ⟨aa, ca, rfl⟩ := hc.row.len
  obtain ⟨ab, cb, rfl⟩ := hc.old.len
  have htb := h.lt
  have he1 := he.1
  have he2 := he.2
  have t0 := h.cell 0 _ rfl; have t1 := h.cell 1 _ rfl; have t5 := h.cell 5 _ rfl; have t6 := h.cell 6 _ rfl; have t7 := h.cell 7 _ rfl
  have HT : Hid (Blk w tb 132 (tc (.slice al l.length cl) e c (.slice aa qs.length ca) (.slice ab c.o.length cb))) := h
  by_cases h19 : 19 ≤ e
  · have ek : begK l e c = 2 := if_pos h19
    rw [ek]
    rw [if_neg (by omega)]
    clear ek h hl hc
    go_enter Tryz.func66, Tryz.ntmps66
    go_wp2
    go_ret
    exact ⟨rfl, HT.out, Below.refl _ _, fun k hk hn => rfl⟩
  · have ek : begK l e c = if wrapM c.ws (nowM l) && (decide (0 < c.o.length) != decide (e = -1)) then 0 else 10 := if_neg h19
    rw [ek]
    have HN : Hid (Calls Tryz.prog 55 #[.agg #[.slice al l.length cl, .int .i64 e]] w.drew fun r w' => ∃ a n q, r = .returned (.slice a n q) ∧ n = (nowM l).length ∧ RowF mc w' (.slice a n q) (nowM l) ∧ Below w.heap.size w w') := by
      refine (now19 (show RowF mc w.drew _ l from hl) (by omega) e).mono ?_
      rintro r w' ⟨v', rfl, hr, hb⟩
      obtain ⟨a, q, e1⟩ := hr.len
      subst e1
      exact ⟨a, _, q, rfl, rfl, hr, ⟨hb.os, hb.tape, hb.output, hb.size, hb.block⟩⟩
    have HWr : Hid (∀ w' nv, Below w.heap.size w w' → RowF mc w' nv (nowM l) → Calls Tryz.prog 107 #[.slice aa qs.length ca, nv] w' fun r w'' => r = .returned (.bool (wrapM c.ws (nowM l))) ∧ Below w.heap.size w w'') := fun w' nv hb hn => by
      have := wrapped57 (hc.below hb).row (hc.below hb).rd hn
      rw [hc.ws] at this
      exact this.mono fun r w'' h' => ⟨h'.1, bnext hb h'.2⟩
    have HF : Hid (∀ w', Below w.heap.size w w' → Calls Tryz.prog 106 #[ptr tb] w' fun r w'' => r = .returned (.bool (decide (e = -1))) ∧ w'' = w') := fun w' hb => first56 (HT.out.below hb)
    have hol : (0 : Int) < (c.o.length : Int) ↔ 0 < c.o.length := by omega
    have HOL : Hid (decide ((0 : Int) < (c.o.length : Int)) = decide (0 < c.o.length)) := (show _ = _ by simp)
    have HBT : Hid (∀ w', Below w.heap.size w w' → Blk w' tb 132 (tc (.slice al l.length cl) e c (.slice aa qs.length ca) (.slice ab c.o.length cb))) := fun w' hb => HT.out.below hb
    have ne : Nonempty (WIn (fun w' => Below w.heap.size w w')) := ⟨⟨w, Below.refl _ _⟩⟩
    have z0 := fun z : WIn (fun w' => Below w.heap.size w w') => (HBT.out z.w z.ok).cell 0 _ rfl
    have z1 := fun z : WIn (fun w' => Below w.heap.size w w') => (HBT.out z.w z.ok).cell 1 _ rfl
    have z6 := fun z : WIn (fun w' => Below w.heap.size w w') => (HBT.out z.w z.ok).cell 6 _ rfl
    have HD : Hid (Below w.heap.size w w.drew) := (show Below _ _ _ from (Below.refl _ _).drew)
    have HLow : Hid (∀ w', Below w.heap.size w w' → Below B w w') := fun w' hb => hb.mono hBw
    generalize decide (e = -1) = fb at *
    generalize wrapM c.ws (nowM l) = wb at *
    obtain ⟨m, hm⟩ : ∃ m, m = c.o.length := ⟨_, rfl⟩
    have HNl : Hid (∀ n, n = (nowM l).length → n ≤ 1000) := fun n hn => by
      have := nowM_le l l.length
      rw [List.take_length] at this
      omega
    clear ek h hl hc hol t0 t6 hm
    cases wb
    · simp only [Bool.false_and, Bool.false_eq_true, if_false, show ¬ ((10 : Int) = 0) by omega]
      go_enter Tryz.func66, Tryz.ntmps66
      go_upto_region 4 with fail
      refine wp_region_ord (C := fun w' => ∃ z : WIn (fun w' => Below w.heap.size w w'), w' = z.w) [(false, 0), (false, 1), (false, 2), (false, 3), (false, 4), (false, 5), (false, 6), (false, 7), (false, 8), (true, 9), (true, 10), (false, 11), (false, 12), (false, 13), (false, 14), (false, 15), (false, 16), (false, 17)] (by kernel_rfl) (by kernel_rfl) ⟨⟨w.drew, HD.out⟩, rfl⟩ ?_
      iterate 9 (refine ord_still rfl rfl ?_; go_big_quiet_step (fail); refine wpQuiet_nil ?_)
      refine ord_mem rfl rfl ?_
      go_simp
      refine HN.out.mono ?_
      rintro r w2 ⟨a2, n2, q2, rfl, hn2, hr2, hb2⟩
      clear hn2
      refine ⟨⟨⟨w2, hb2⟩, rfl⟩, ?_⟩
      go_simp
      refine ord_mem rfl rfl ?_
      go_simp
      refine (HWr.out w2 _ hb2 hr2).mono ?_
      rintro r w3 ⟨rfl, hb3⟩
      refine ⟨⟨⟨w3, hb3⟩, rfl⟩, ?_⟩
      iterate 4 (refine ord_still rfl rfl ?_; go_big_quiet_step (fail); refine wpQuiet_nil ?_)
      refine ord_shut rfl rfl ?_
      go_big_quiet_step (fail)
      refine wpQuiet_nil ?_
      iterate 2 (refine ord_still rfl rfl ?_; go_big_quiet_step (fail); refine wpQuiet_nil ?_)
      refine ord_end ?_
      go_wp2
      go_ret
      exact ⟨rfl, HBT.out w3 hb3, HLow.out _ hb3, fun k hk hn => hb3.block k hk⟩
    · by_cases ho : 0 < c.o.length
      · rw [decide_eq_true ho]
        cases fb
        · simp only [Bool.true_and, bne_self_eq_false, Bool.false_eq_true, if_false, if_true, show (true != false) = true from rfl, show (false != true) = true from rfl, show ¬ ((10 : Int) = 0) by omega]
          go_enter Tryz.func66, Tryz.ntmps66
          go_upto_region 4 with fail
          refine wp_region_ord (C := fun w' => ∃ z : WIn (fun w' => Below w.heap.size w w'), w' = z.w) [(false, 0), (false, 1), (false, 2), (false, 3), (false, 4), (false, 5), (false, 6), (false, 7), (false, 8), (true, 9), (true, 10), (false, 11), (false, 12), (false, 13), (false, 14), (true, 15), (false, 16), (false, 17)] (by kernel_rfl) (by kernel_rfl) ⟨⟨w.drew, HD.out⟩, rfl⟩ ?_
          iterate 9 (refine ord_still rfl rfl ?_; go_big_quiet_step (fail); refine wpQuiet_nil ?_)
          refine ord_mem rfl rfl ?_
          go_simp
          refine HN.out.mono ?_
          rintro r w2 ⟨a2, n2, q2, rfl, hn2, hr2, hb2⟩
          clear hn2
          refine ⟨⟨⟨w2, hb2⟩, rfl⟩, ?_⟩
          go_simp
          refine ord_mem rfl rfl ?_
          go_simp
          refine (HWr.out w2 _ hb2 hr2).mono ?_
          rintro r w3 ⟨rfl, hb3⟩
          refine ⟨⟨⟨w3, hb3⟩, rfl⟩, ?_⟩
          iterate 4 (refine ord_still rfl rfl ?_; go_big_quiet_step (fail); refine wpQuiet_nil ?_)
          refine ord_mem rfl rfl ?_
          go_simp
          refine (HF.out w3 hb3).mono ?_
          rintro r w4 ⟨rfl, hw4⟩
          subst hw4
          refine ⟨⟨⟨w4, hb3⟩, rfl⟩, ?_⟩
          iterate 2 (refine ord_still rfl rfl ?_; go_big_quiet_step (fail); refine wpQuiet_nil ?_)
          refine ord_end ?_
          have X := HBT.out w4 hb3
          have x1 := X.cell 1 _ rfl
          have f1 := X.frozen 1
          have HX : Hid (Blk w4 tb 132 (tc (.slice al l.length cl) e c (.slice aa qs.length ca) (.slice ab c.o.length cb))) := X
          clear X z0 z1 z6 ne
          go_wp2
          go_ret
          refine ⟨rfl, ?_, ?_, fun k hk hn => ?_⟩
          · exact (HX.out.set 1 _)
          · exact (HLow.out _ hb3).setCell hB _
          · rw [Below.heap_setCell _ _ _ _ hn]
            exact hb3.block k hk
        · simp only [Bool.true_and, bne_self_eq_false, Bool.false_eq_true, if_false, if_true, show (true != false) = true from rfl, show (false != true) = true from rfl, show ¬ ((10 : Int) = 0) by omega]
          go_enter Tryz.func66, Tryz.ntmps66
          go_upto_region 4 with fail
          refine wp_region_ord (C := fun w' => ∃ z : WIn (fun w' => Below w.heap.size w w'), w' = z.w) [(false, 0), (false, 1), (false, 2), (false, 3), (false, 4), (false, 5), (false, 6), (false, 7), (false, 8), (true, 9), (true, 10), (false, 11), (false, 12), (false, 13), (false, 14), (true, 15), (false, 16), (false, 17)] (by kernel_rfl) (by kernel_rfl) ⟨⟨w.drew, HD.out⟩, rfl⟩ ?_
          iterate 9 (refine ord_still rfl rfl ?_; go_big_quiet_step (fail); refine wpQuiet_nil ?_)
          refine ord_mem rfl rfl ?_
          go_simp
          refine HN.out.mono ?_
          rintro r w2 ⟨a2, n2, q2, rfl, hn2, hr2, hb2⟩
          clear hn2
          refine ⟨⟨⟨w2, hb2⟩, rfl⟩, ?_⟩
          go_simp
          refine ord_mem rfl rfl ?_
          go_simp
          refine (HWr.out w2 _ hb2 hr2).mono ?_
          rintro r w3 ⟨rfl, hb3⟩
          refine ⟨⟨⟨w3, hb3⟩, rfl⟩, ?_⟩
          iterate 4 (refine ord_still rfl rfl ?_; go_big_quiet_step (fail); refine wpQuiet_nil ?_)
          refine ord_mem rfl rfl ?_
          go_simp
          refine (HF.out w3 hb3).mono ?_
          rintro r w4 ⟨rfl, hw4⟩
          subst hw4
          refine ⟨⟨⟨w4, hb3⟩, rfl⟩, ?_⟩
          iterate 2 (refine ord_still rfl rfl ?_; go_big_quiet_step (fail); refine wpQuiet_nil ?_)
          refine ord_end ?_
          have X := HBT.out w4 hb3
          have x1 := X.cell 1 _ rfl
          have f1 := X.frozen 1
          have HX : Hid (Blk w4 tb 132 (tc (.slice al l.length cl) e c (.slice aa qs.length ca) (.slice ab c.o.length cb))) := X
          clear X z0 z1 z6 ne
          go_wp2
          go_ret
          exact ⟨rfl, HX.out, HLow.out _ hb3, fun k hk hn => hb3.block k hk⟩
      · rw [decide_eq_false ho]
        have ho2 : c.o.length = 0 := by omega
        cases fb
        · simp only [Bool.true_and, bne_self_eq_false, Bool.false_eq_true, if_false, if_true, show (true != false) = true from rfl, show (false != true) = true from rfl, show ¬ ((10 : Int) = 0) by omega]
          go_enter Tryz.func66, Tryz.ntmps66
          go_upto_region 4 with fail
          refine wp_region_ord (C := fun w' => ∃ z : WIn (fun w' => Below w.heap.size w w'), w' = z.w) [(false, 0), (false, 1), (false, 2), (false, 3), (false, 4), (false, 5), (false, 6), (false, 7), (false, 8), (true, 9), (true, 10), (false, 11), (false, 12), (false, 13), (false, 14), (true, 15), (false, 16), (false, 17)] (by kernel_rfl) (by kernel_rfl) ⟨⟨w.drew, HD.out⟩, rfl⟩ ?_
          iterate 9 (refine ord_still rfl rfl ?_; go_big_quiet_step (fail); refine wpQuiet_nil ?_)
          refine ord_mem rfl rfl ?_
          go_simp
          refine HN.out.mono ?_
          rintro r w2 ⟨a2, n2, q2, rfl, hn2, hr2, hb2⟩
          clear hn2
          refine ⟨⟨⟨w2, hb2⟩, rfl⟩, ?_⟩
          go_simp
          refine ord_mem rfl rfl ?_
          go_simp
          refine (HWr.out w2 _ hb2 hr2).mono ?_
          rintro r w3 ⟨rfl, hb3⟩
          refine ⟨⟨⟨w3, hb3⟩, rfl⟩, ?_⟩
          iterate 4 (refine ord_still rfl rfl ?_; go_big_quiet_step (fail); refine wpQuiet_nil ?_)
          refine ord_mem rfl rfl ?_
          go_simp
          refine (HF.out w3 hb3).mono ?_
          rintro r w4 ⟨rfl, hw4⟩
          subst hw4
          refine ⟨⟨⟨w4, hb3⟩, rfl⟩, ?_⟩
          iterate 2 (refine ord_still rfl rfl ?_; go_big_quiet_step (fail); refine wpQuiet_nil ?_)
          refine ord_end ?_
          have X := HBT.out w4 hb3
          have x1 := X.cell 1 _ rfl
          have f1 := X.frozen 1
          have HX : Hid (Blk w4 tb 132 (tc (.slice al l.length cl) e c (.slice aa qs.length ca) (.slice ab c.o.length cb))) := X
          clear X z0 z1 z6 ne
          go_wp2
          go_ret
          have h9 := HX.out
          rw [ho2] at h9
          exact ⟨rfl, h9, HLow.out _ hb3, fun k hk hn => hb3.block k hk⟩
        · simp only [Bool.true_and, bne_self_eq_false, Bool.false_eq_true, if_false, if_true, show (true != false) = true from rfl, show (false != true) = true from rfl, show ¬ ((10 : Int) = 0) by omega]
          go_enter Tryz.func66, Tryz.ntmps66
          go_upto_region 4 with fail
          refine wp_region_ord (C := fun w' => ∃ z : WIn (fun w' => Below w.heap.size w w'), w' = z.w) [(false, 0), (false, 1), (false, 2), (false, 3), (false, 4), (false, 5), (false, 6), (false, 7), (false, 8), (true, 9), (true, 10), (false, 11), (false, 12), (false, 13), (false, 14), (true, 15), (false, 16), (false, 17)] (by kernel_rfl) (by kernel_rfl) ⟨⟨w.drew, HD.out⟩, rfl⟩ ?_
          iterate 9 (refine ord_still rfl rfl ?_; go_big_quiet_step (fail); refine wpQuiet_nil ?_)
          refine ord_mem rfl rfl ?_
          go_simp
          refine HN.out.mono ?_
          rintro r w2 ⟨a2, n2, q2, rfl, hn2, hr2, hb2⟩
          clear hn2
          refine ⟨⟨⟨w2, hb2⟩, rfl⟩, ?_⟩
          go_simp
          refine ord_mem rfl rfl ?_
          go_simp
          refine (HWr.out w2 _ hb2 hr2).mono ?_
          rintro r w3 ⟨rfl, hb3⟩
          refine ⟨⟨⟨w3, hb3⟩, rfl⟩, ?_⟩
          iterate 4 (refine ord_still rfl rfl ?_; go_big_quiet_step (fail); refine wpQuiet_nil ?_)
          refine ord_mem rfl rfl ?_
          go_simp
          refine (HF.out w3 hb3).mono ?_
          rintro r w4 ⟨rfl, hw4⟩
          subst hw4
          refine ⟨⟨⟨w4, hb3⟩, rfl⟩, ?_⟩
          iterate 2 (refine ord_still rfl rfl ?_; go_big_quiet_step (fail); refine wpQuiet_nil ?_)
          refine ord_end ?_
          have X := HBT.out w4 hb3
          have x1 := X.cell 1 _ rfl
          have f1 := X.frozen 1
          have HX : Hid (Blk w4 tb 132 (tc (.slice al l.length cl) e c (.slice aa qs.length ca) (.slice ab c.o.length cb))) := X
          clear X z0 z1 z6 ne
          go_wp2
          go_ret
          have h9 := HX.out
          rw [ho2] at h9
          refine ⟨rfl, ?_, ?_, fun k hk hn => ?_⟩
          · exact (h9.set 1 _)
          · exact (HLow.out _ hb3).setCell hB _
          · rw [Below.heap_setCell _ _ _ _ hn]
            exact hb3.block k hk
end
end Go.Proofs.YtjbpfhnagiacmaaGreat
