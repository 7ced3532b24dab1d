/-
  A store, what is wanted of it, and what is looked at behind each act.
-/
import Derived.Test.YtkcighejmjgalaaDoorWnt
namespace Go.Proofs.YtkcighejmjgalaaDoor
set_option linter.unusedVariables false
set_option linter.unusedSimpArgs false
set_option synthInstance.maxSize 20000
set_option maxHeartbeats 2000000
set_option maxRecDepth 20000
open Go.RowKit Go.Maps

structure PG (w wr : World) (o : Nat → Nat) (db sb jb : Nat) (D : Dk) (num : Int) (J : Jk) (sv : Value) (snap : List Int) (av : Value) (ws : List VB) (N : Nat) : Prop where
  g : GS w wr o db sb jb D num J snap (LL ws) N
  sn : Rd w sv snap
  wt : WantAt wr o av ws
theorem cont_all {D : Dk} {base size : Nat} (h : base + size ≤ D.now.length) : ((cont D 0 D.now.length).drop base).take size = cont D base size := by
  unfold cont
  rw [List.drop_zero, List.take_length, ← List.map_drop, ← List.map_take]
section
variable {w wr : World} {o : Nat → Nat} {db sb jb : Nat} {D : Dk} {num : Int} {J : Jk} {sv av : Value} {snap : List Int} {ws : List VB} {N : Nat}
theorem PG.below {w' : World} (h : PG w wr o db sb jb D num J sv snap av ws N) (hb : Below wr.heap.size wr w') : PG w w' (newTo o wr 0) db sb jb D num J sv snap av ws N := ⟨h.g.below hb, h.sn, h.wt.mv (Mv.of_below (I := []) 0 hb) (by simp) (by simp)⟩
theorem PG.step {I : List Nat} {w' : World} {o' : Nat → Nat} {jb' : Nat} {D' : Dk} {num' : Int} {J' : Jk} {snap' : List Int} {sv' : Value} {N' : Nat} (h : PG w wr o db sb jb D num J sv snap av ws N) (m : Mv I wr o w' o') (h9 : 9 ∉ I) (h0 : 0 ∉ I) (g : GS w w' o' db sb jb' D' num' J' snap' (LL ws) N') (hs : Rd w sv' snap') : PG w w' o' db sb jb' D' num' J' sv' snap' av ws N' := ⟨g, hs, h.wt.mv m h9 h0⟩
/-- One more is wanted. -/
theorem PG.more {o' : Nat → Nat} {w' w3 : World} {D' : Dk} {J' : Jk} {N' : Nat} {v' ev : Value} {eb : List Int} (hw : WantAt w' o' av ws) (hs : Rd w sv snap) (g : GS w w' o' db sb jb D' num J' snap (LL ws ++ [eb]) N') (he : Rd w ev eb)
    (k1 : w3.ownsRow 0 30 1 v' (ws ++ [(ev, eb)]).length (flat lc (ws ++ [(ev, eb)]))) (k2 : (w'.alloc (.cells #[ev] 30)).grownBy w3 av.ownBlock) (k3 : ∀ j, v'.ownBlock = some j → av.ownBlock = some j ∨ (w'.alloc (.cells #[ev] 30)).heap.size ≤ j) :
    ∃ o3, PG w w3 o3 db sb jb D' num J' sv snap v' (ws ++ [(ev, eb)]) N' := by
  have h0 : eb ≠ [] → ∀ k, ev.ownBlock = some k → o' k = 0 := fun hl k hk => by
    rw [g.mv.ext k (he.blockLt hl k hk)]
    rfl
  obtain ⟨o3, w1, m1⟩ := hw.add (he.below g.bel) h0 k1 k2 k3
  refine ⟨o3, ?_, hs, w1⟩
  have := g.step m1 (by simp) (by simp) (by simp) (by simp) (by simp)
  rwa [show LL (ws ++ [(ev, eb)]) = LL ws ++ [eb] by simp [LL]]
theorem PG.of {w1 : World} (h : PG w wr o db sb jb D num J sv snap av ws N) {v : Value} {qs : List VB} (hb : Below wr.heap.size wr w1) (hq : RL w1 v qs) (hL : LL qs = cont D 0 D.now.length) (O : Nat → Nat) :
    Calls Tryd.prog 12 #[v] w1 fun r w' => ∃ v0 v1, r = .returned (stV num v0 v1 ((J.fin - J.next : Nat) : Int)) ∧ (∃ a c, v0 = .slice a snap.length c) ∧ (∃ a c, v1 = .slice a (LL ws).length c) ∧ Kp0 w' (newTo O w1 0) v0 snap ∧ KL w' (newTo O w1 0) v1 (LL ws) ∧ Below w1.heap.size w1 w' := by
  have si := h.g.si
  have h6 := si.n6
  have h60 := si.n60
  have hfit := si.fit
  have hql : qs.length = D.now.length := by rw [← LL_len, hL, cont_len (by omega)]
  have hs0 : (LL qs)[0]? = some (secB (D.now.getD 0 zs)) := by rw [hL]; exact cont_at (by omega) (by omega)
  have hs1 : (LL qs)[1]? = some (secB (D.now.getD 1 zs)) := by rw [hL]; exact cont_at (by omega) (by omega)
  have hpl := placeN_le num
  have hhd := si.hd
  have hho := si.ho
  have hn1 := si.n1
  have hjn := si.jn
  have hjf := si.jf
  have hjm := si.jm
  have hjr := si.jr
  have hlt := si.late
  have hct : ((LL qs).drop (hbase D.now.length num)).take (hsize qs.length) = bgC D num := by rw [hL, hql, cont_all hfit]; rfl
  have := of12 (w := w1) O (v := v) (qs := qs) (a := headD D 0) (b := headD D 1) (n := num) (base := hbase D.now.length num) (tail := J.next - hbase D.now.length num) (b0 := snap) (rest := LL ws) hq (by omega) (by omega) hs0 hs1 rfl rfl (by
    unfold hbase
    rw [hql]
    rcases Nat.eq_zero_or_pos (placeN num) with e | e
    · right
      rw [e] at hhd hho ⊢
      simp at hho
      refine ⟨by omega, hhd.symm, by omega⟩
    · left
      rw [show placeN num = 1 by omega] at hhd hho ⊢
      simp at hho
      refine ⟨by omega, hhd.symm, by omega⟩) si.u32 (by omega) (by rw [hct]; exact si.scan) (by rw [hct]; omega) (by rw [hql]; omega)
  rw [hql, show hsize D.now.length - (J.next - hbase D.now.length num) = J.fin - J.next by omega] at this
  exact this
/-- What is looked at behind each act. -/
theorem PG.look (h : PG w wr o db sb jb D num J sv snap av ws N) (hT : Tab w) (hN : N ≤ 2000) (hws : ws.length ≤ 1000) :
    Calls Tryd.prog 13 #[ptr db] wr fun r w1 => ∃ a n c, r = .returned (.slice a n c) ∧
    Calls Tryd.prog 12 #[.slice a n c] w1 fun r w2 => ∃ a0 n0 c0 a1 n1 c1, r = .returned (stV num (.slice a0 n0 c0) (.slice a1 n1 c1) ((J.fin - J.next : Nat) : Int)) ∧ ∀ w3, w3 = w2.alloc (.cells #[.int .u32 num, .slice a0 n0 c0, .slice a1 n1 c1, .int .i64 ((J.fin - J.next : Nat) : Int), .int .i64 0] 41) →
    Calls Tryd.prog 14 #[ptr db] w3 fun r w4 => ∃ cb, r = .returned (ptr cb) ∧
    Calls Tryd.prog 8 #[ptr cb] w4 fun r w5 => ∃ sb2 a2 n2 c2 a3 n3 c3, r = .returned (.tuple #[ptr sb2, .slice a2 n2 c2, .slice a3 n3 c3, .int .i64 0]) ∧
    Calls Tryd.prog 15 #[ptr sb] w5 fun r w6 => r = .returned (.int .i64 (ws.length : Int)) ∧ w6 = w5 ∧
    Calls Tryd.prog 16 #[ptr sb] w5 fun r w7 => r = .returned (.int .i64 ((J.fin - J.next : Nat) : Int)) ∧
    Calls Tryd.prog 17 #[ptr sb] w7 fun r w8 => r = .returned (.int .u32 num) ∧ w8 = w7 ∧ w7.cell? ⟨w2.heap.size, 0, none⟩ = some (.int .u32 num) ∧ w7.cell? ⟨w2.heap.size, 1, none⟩ = some (.slice a0 n0 c0) ∧ w7.cell? ⟨w2.heap.size, 2, none⟩ = some (.slice a1 n1 c1) ∧ w7.cell? ⟨w2.heap.size, 4, none⟩ = some (.int .i64 0) ∧
    Calls Tryd.prog 18 #[.slice a0 n0 c0, .slice a1 n1 c1, sv, av] w7 fun r w9 => r = .returned (.bool true) ∧
    Calls Tryd.prog 18 #[.slice a2 n2 c2, .slice a3 n3 c3, sv, av] w9 fun r w10 => r = .returned (.bool true) ∧ ∃ o', PG w w10 o' db sb jb D num J sv snap av ws N := by
  refine (sectors13 h.g.d h.g.dn h.g.ok.few).mono ?_
  rintro r w1 ⟨v, rfl, ⟨qs, hq, hL⟩, hb1⟩
  have hof := h.of hb1 hq hL (newTo o wr 0)
  obtain ⟨a, c, rfl⟩ := hq.len
  refine ⟨a, _, c, rfl, ?_⟩
  refine hof.mono ?_
  rintro r w2 ⟨v0, v1, rfl, ⟨a0, c0, rfl⟩, ⟨a1, c1, rfl⟩, k0, k1, hb2⟩
  refine ⟨a0, _, c0, a1, _, c1, rfl, ?_⟩
  rintro w3 rfl
  have p1 := h.below hb1
  have p2 := p1.below hb2
  have hb3 : Below w2.heap.size w2 (w2.alloc (.cells #[.int .u32 num, .slice a0 snap.length c0, .slice a1 (LL ws).length c1, .int .i64 ((J.fin - J.next : Nat) : Int), .int .i64 0] 41)) := balloc (Below.refl _ _) _
  have p3 := p2.below hb3
  have m3 : ∀ I, Mv I w2 (newTo (newTo o wr 0) w1 0) (w2.alloc (.cells #[.int .u32 num, .slice a0 snap.length c0, .slice a1 (LL ws).length c1, .int .i64 ((J.fin - J.next : Nat) : Int), .int .i64 0] 41)) (newTo (newTo (newTo o wr 0) w1 0) w2 0) := fun I => Mv.of_below 0 hb3
  have k0' := k0.mv (m3 []) (by simp)
  have k1' := k1.mv (m3 []) (by simp)
  have bk := blk_new w2 [.int .u32 num, .slice a0 snap.length c0, .slice a1 (LL ws).length c1, .int .i64 ((J.fin - J.next : Nat) : Int), .int .i64 0] 41
  have ob : newTo (newTo (newTo o wr 0) w1 0) w2 0 w2.heap.size = 0 := newTo_new (Nat.le_refl _)
  generalize newTo (newTo (newTo o wr 0) w1 0) w2 0 = o3 at *
  refine (p3.g.copyOpen hT hN).mono ?_
  rintro r w4 ⟨cb, rfl, hop⟩
  refine ⟨cb, rfl, ?_⟩
  refine hop.mono ?_
  rintro r w5 ⟨v2, v3, sb2, rfl, o5, k2, k3, g5, m5⟩
  obtain ⟨a2, c2, e2⟩ := k2.1.len
  obtain ⟨a3, c3, e3, _⟩ := k3.slice
  subst e2
  subst e3
  refine ⟨sb2, a2, _, c2, a3, _, c3, rfl, ?_⟩
  have wt5 := p3.wt.mv m5 (by simp) (by simp)
  have k05 := k0'.mv m5 (by simp)
  have k15 := k1'.mv m5 (by simp)
  have bk5 : Blk w5 w2.heap.size 41 _ := Blk.block bk (m5.block _ bk.lt (by rw [ob]; simp))
  refine g5.count.mono ?_
  rintro r w6 ⟨rfl, rfl⟩
  refine ⟨by rw [LL_len], rfl, ?_⟩
  refine g5.room.mono ?_
  rintro r w7 ⟨rfl, hb7⟩
  refine ⟨rfl, ?_⟩
  have g7 := g5.below hb7
  have bk7 := bk5.below hb7
  refine g7.number.mono ?_
  rintro r w8 ⟨rfl, rfl⟩
  have p7 : PG w w8 (newTo o5 w6 0) db sb jb D num J sv snap av ws N := ⟨g7, p3.sn, wt5.mv (Mv.of_below (I := []) 0 hb7) (by simp) (by simp)⟩
  refine ⟨rfl, rfl, bk7.cell 0 _ rfl, bk7.cell 1 _ rfl, bk7.cell 2 _ rfl, bk7.cell 4 _ rfl, ?_⟩
  obtain ⟨qs1, q1, q2⟩ := k15
  have hl1 : qs1.length ≤ 1000 := by rw [← LL_len, q2, LL_len]; exact hws
  have s1 := same18 (k05.1.below hb7) (p7.sn.below p7.g.bel) (q1.rl.below hb7) p7.wt.rl hl1
  rw [q2, decide_eq_true ⟨rfl, rfl⟩] at s1
  refine s1.mono ?_
  rintro r w9 ⟨rfl, hb9⟩
  refine ⟨rfl, ?_⟩
  have p9 := p7.below hb9
  obtain ⟨qs3, q3, q4⟩ := k3
  have hl3 : qs3.length ≤ 1000 := by rw [← LL_len, q4, LL_len]; exact hws
  have s2 := same18 ((k2.1.below hb7).below hb9) (p9.sn.below p9.g.bel) ((q3.rl.below hb7).below hb9) p9.wt.rl hl3
  rw [q4, decide_eq_true ⟨rfl, rfl⟩] at s2
  refine s2.mono ?_
  rintro r w10 ⟨rfl, hb10⟩
  exact ⟨rfl, _, p9.below hb10⟩
end
end Go.Proofs.YtkcighejmjgalaaDoor
