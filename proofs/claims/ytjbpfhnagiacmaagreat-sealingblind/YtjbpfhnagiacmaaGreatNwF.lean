/-
  The list of changes that a law makes of its own: each one's wraps lie in rows of their own.
  The reference's comparison of changes, at the same change twice.
  New and Now of members, program and reference: what they hand out is new.
-/
import Derived.Test.YtjbpfhnagiacmaaGreatRfB
import Derived.Laws.EntriesVeiled
import Derived.Test.YtjbpfhnagiacmaaGreatRfB2
import Derived.Test.YtjbpfhnagiacmaaGreatApp2
namespace Go.Proofs.YtjbpfhnagiacmaaGreat
section
set_option linter.unusedVariables false
set_option linter.unusedSimpArgs false
set_option synthInstance.maxSize 20000
set_option maxHeartbeats 2000000
set_option maxRecDepth 20000
open Go.RowKit Go.Maps
structure AllAt (w wr : World) (B : Nat) (vo : Value) (cs : List Cq) : Prop where
  own : wr.ownsRow 0 75 6 vo cs.length (flat cqf cs)
  new : ∀ j, vo.ownBlock = some j → B ≤ j
  each : ∀ q ∈ cs, ∃ qs, CgAt wr q.1 q.2.1 q.2.2 qs ∧ (∀ j, q.2.1.ownBlock = some j → B ≤ j ∧ j < wr.heap.size ∧ vo.ownBlock ≠ some j) ∧ (∀ x ∈ qs, Rd w x.2 x.1.b) ∧ Rd w q.2.2 q.1.o
theorem AllAt.nil (w wr : World) (B : Nat) : AllAt w wr B (.slice none 0 0) [] := ⟨World.ownsRow_nil _ _ _ _, (fun j hj => by cases hj), (fun q hq => by cases hq)⟩
theorem AllAt.below {w wr w' : World} {B : Nat} {vo : Value} {cs : List Cq} (h : AllAt w wr B vo cs) (hb : Below wr.heap.size wr w') : AllAt w w' B vo cs :=
  ⟨own_below h.own hb, h.new, fun q hq => by
    obtain ⟨qs, h1, h2, h3, h4⟩ := h.each q hq
    exact ⟨qs, h1.below hb, fun j hj => ⟨(h2 j hj).1, Nat.lt_of_lt_of_le (h2 j hj).2.1 hb.size, (h2 j hj).2.2⟩, h3, h4⟩⟩
theorem AllAt.blocks {w wr w' : World} {B : Nat} {vo : Value} {cs : List Cq} (h : AllAt w wr B vo cs) (hs : wr.heap.size ≤ w'.heap.size) (hb : Below w.heap.size w w') (hk : ∀ j, B ≤ j → j < wr.heap.size → w'.heap[j]? = wr.heap[j]?) : AllAt w w' B vo cs :=
  ⟨ownsRow_block h.own (fun j hj => hk j (h.new j hj) (h.own.lt j hj).2), h.new, fun q hq => by
    obtain ⟨qs, h1, h2, h3, h4⟩ := h.each q hq
    refine ⟨qs, ⟨h1.row.blocks (fun j hj hlt => hk j (h2 j hj).1 hlt), fun x hx => (h3 x hx).below hb, h1.ok, h1.ws, h4.below hb, h1.k, h1.w, h1.p, h1.l⟩, fun j hj => ⟨(h2 j hj).1, Nat.lt_of_lt_of_le (h2 j hj).2.1 hs, (h2 j hj).2.2⟩, h3, h4⟩⟩
theorem AllAt.putS {w wr : World} {B b : Nat} {vo v : Value} {e : Int} {cs : List Cq} (h : AllAt w wr B vo cs) (hb : Below w.heap.size w wr) (hw : w.heap.size ≤ b) (hB : b < B) : AllAt w (putS wr b v e) B vo cs :=
  h.blocks (by rw [putS_size]; exact Nat.le_refl _) (putS_below hb hw) (fun j hj _ => by
    unfold Go.Proofs.YtjbpfhnagiacmaaGreat.putS
    rw [Below.heap_setCell _ _ _ _ (by simp; omega), Below.heap_setCell _ _ _ _ (by simp; omega)])
end
section
set_option linter.unusedVariables false
set_option linter.unusedSimpArgs false
set_option synthInstance.maxSize 20000
set_option maxHeartbeats 2000000
set_option maxRecDepth 20000
open Go.RowKit Go.Maps
theorem new10f (p : Int) (w : World) : Calls Tryz.prog 24 #[.int .u64 p] w fun r w' => ∃ v, r = .returned (stv v (-1)) ∧ RowF mc w' v [⟨0, p, 0, -1, 0⟩] ∧ (∀ j, v.ownBlock = some j → w.heap.size ≤ j) ∧ Below w.heap.size w w' := by
  have HR : Hid (∀ w' : World, RowF mc (w'.alloc (.cells #[.int .i64 0, .int .u64 p, .int .i64 0, .int .i64 (-1), .int .i64 0] 116)) (.slice (some ⟨w'.heap.size, 0, none⟩) 1 1) [(⟨0, p, 0, -1, 0⟩ : Mb)]) := fun w' => rowF_one w' (⟨0, p, 0, -1, 0⟩ : Mb) 116
  go_enter Tryz.func24, Tryz.ntmps24
  go_wp2
  refine bodyPost_ret (v := stv (.slice (some ⟨w.heap.size + 1, 0, none⟩) 1 1) (-1)) ?_ rfl ⟨_, rfl, ?_, (fun j hj => by simp [Value.ownBlock] at hj; omega), ?_⟩
  · rw [results_cell1 rfl]
    unfold stv
    go_simp
  · have := HR.out (w.alloc (.cells #[.slice (some ⟨w.heap.size + 1, 0, none⟩) 1 1, .int .i64 (-1)] 67))
    simp only [World.size_alloc] at this
    exact this
  · exact balloc2 _ _ _
theorem rnew11f (p : Int) (w : World) : Calls Tryz.prog 25 #[.int .u64 p] w fun r w' => ∃ v, r = .returned (stv v (-1)) ∧ RowF mc w' v [⟨0, p, 0, -1, 0⟩] ∧ (∀ j, v.ownBlock = some j → w.heap.size ≤ j) ∧ Below w.heap.size w w' := by
  have HR : Hid (∀ w' : World, RowF mc (w'.alloc (.cells #[.int .i64 0, .int .u64 p, .int .i64 0, .int .i64 (-1), .int .i64 0] 117)) (.slice (some ⟨w'.heap.size, 0, none⟩) 1 1) [(⟨0, p, 0, -1, 0⟩ : Mb)]) := fun w' => rowF_one w' (⟨0, p, 0, -1, 0⟩ : Mb) 117
  go_enter Tryz.func25, Tryz.ntmps25
  go_wp2
  refine bodyPost_ret (v := stv (.slice (some ⟨w.heap.size + 1, 0, none⟩) 1 1) (-1)) ?_ rfl ⟨_, rfl, ?_, (fun j hj => by simp [Value.ownBlock] at hj; omega), ?_⟩
  · rw [results_cell1 rfl]
    unfold stv
    go_simp
  · have := HR.out (w.alloc (.cells #[.slice (some ⟨w.heap.size + 1, 0, none⟩) 1 1, .int .i64 (-1)] 71))
    simp only [World.size_alloc] at this
    exact this
  · exact balloc2 _ _ _
theorem now19f {w : World} {v : Value} {l : List Mb} (hv : RowF mc w v l) (hl : l.length ≤ 10000) (e : Int) : Calls Tryz.prog 55 #[stv v e] w fun r w' => ∃ v', r = .returned v' ∧ RowF mc w' v' (nowM l) ∧ (∀ j, v'.ownBlock = some j → w.heap.size ≤ j) ∧ Below w.heap.size w w' := by
  obtain ⟨av, cap, rfl⟩ := hv.len
  have hcap := hv.caps
  have hc1 : l.length ≤ cap := hcap.2.1
  have hc2 : cap ≤ 9223372036854775807 := hcap.2.2
  have HV : Hid (∀ w', Below w.heap.size w w' → RowF mc w' (.slice av l.length cap) l) := fun w' hb => hv.below hb
  obtain ⟨n, hn⟩ : ∃ n, n = l.length := ⟨_, rfl⟩
  have HN : Hid (n = l.length) := hn
  rw [← hn] at hc1 HV hl ⊢
  clear hv hcap hn
  unfold stv
  go_enter Tryz.func55, Tryz.ntmps55
  go_wp2
  go_loopw [3, 9] (fun vo i wr => ∃ (k : Nat), i = .int .i64 k ∧ k ≤ n ∧ Hid (Below w.heap.size w wr) ∧ Hid (wr.ownsRow 0 116 5 vo (nowM (l.take k)).length (flat mc (nowM (l.take k)))) ∧ Hid (∀ j, vo.ownBlock = some j → w.heap.size ≤ j)) (fun _ i _ => n - (intOf i).toNat)
  case atStart => exact ⟨0, rfl, by omega, (show Below _ _ _ from balloc (Below.refl _ _) _), World.ownsRow_nil _ _ _ _, (fun j hj => by cases hj)⟩
  case round =>
    obtain ⟨k, rfl, hk, HB, HO, HNw⟩ := hrel
    by_cases hki : k < n
    · obtain ⟨m, hm⟩ : ∃ m, l[k]? = some m := ⟨_, List.getElem?_eq_getElem (by have := HN.out; omega)⟩
      have HM : Hid (nowM (l.take (k + 1)) = nowM (l.take k) ++ (if on m = true then [m] else [])) := nowM_snoc hm
      have HL : Hid ((nowM (l.take k)).length ≤ n) := (by have := nowM_le l k; rw [← HN.out] at this; exact this)
      obtain ⟨b, off, ea, hc⟩ := (HV.out wr HB.out).at mc_len hm
      subst ea
      have HR : Hid (∀ w', Calls Tryz.prog 95 #[mv m] w' fun r w'' => r = .returned (.bool (!on m)) ∧ Below w'.heap.size w' w'') := fun w' => revoked39 m w'
      obtain ⟨av2, cp2, hvo, hcp⟩ := slice_of_own HO.out
      subst hvo
      have HBk : Hid (∀ w', Below (wr.heap.size + 1) (wr.alloc (.cells (mc m).toArray 116)) w' → Blk w' wr.heap.size 116 (mc m) ∧ Below w.heap.size w w' ∧ w'.ownsRow 0 116 5 (.slice av2 (nowM (l.take k)).length cp2) (nowM (l.take k)).length (flat mc (nowM (l.take k)))) := fun w' hb =>
        have hb' : Below (wr.alloc (.cells (mc m).toArray 116)).heap.size (wr.alloc (.cells (mc m).toArray 116)) w' := by simpa using hb
        have hb2 : Below wr.heap.size wr w' := bnext (balloc (Below.refl _ _) _) hb'
        ⟨(blk_new wr (mc m) 116).below hb', bnext HB.out hb2, own_below HO.out hb2⟩
      have HRow : Hid (∀ w' : World, RowF mc (w'.alloc (.cells (mc m).toArray 116)) (.slice (some ⟨w'.heap.size, 0, none⟩) 1 1) [m]) := fun w' => rowF_one w' m 116
      obtain ⟨x0, x1, x2, x3, x4⟩ := m
      have c0 := hc 0 _ rfl; have c1 := hc 1 _ rfl; have c2 := hc 2 _ rfl; have c3 := hc 3 _ rfl; have c4 := hc 4 _ rfl
      simp only [Nat.add_zero] at c0
      unfold mv at HR
      have HBk : Hid (∀ w', Below (wr.heap.size + 1) (wr.alloc (.cells #[.int .i64 x0, .int .u64 x1, .int .i64 x2, .int .i64 x3, .int .i64 x4] 116)) w' → Blk w' wr.heap.size 116 [.int .i64 x0, .int .u64 x1, .int .i64 x2, .int .i64 x3, .int .i64 x4] ∧ Below w.heap.size w w' ∧ w'.ownsRow 0 116 5 (.slice av2 (nowM (l.take k)).length cp2) (nowM (l.take k)).length (flat mc (nowM (l.take k)))) := HBk
      have HRow : Hid (∀ w' : World, RowF mc (w'.alloc (.cells #[.int .i64 x0, .int .u64 x1, .int .i64 x2, .int .i64 x3, .int .i64 x4] 116)) (.slice (some ⟨w'.heap.size, 0, none⟩) 1 1) [(⟨x0, x1, x2, x3, x4⟩ : Mb)]) := HRow
      dsimp only at HR
      have HNK : Hid (((nowM (l.take k)) ++ [(⟨x0, x1, x2, x3, x4⟩ : Mb)]).length ≤ 100000) := (show _ ≤ _ by rw [List.length_append]; have := HL.out; simp; omega)
      generalize hnn : nowM (l.take k) = acc at *
      generalize on ⟨x0, x1, x2, x3, x4⟩ = ob at *
      clear hc hm hnn
      cases ob
      · have HM2 : Hid (nowM (l.take (k + 1)) = acc) := by have := HM.out; simp at this; exact this
        clear HM
        go_wp2_with (go_at_call 95; go_must (refine (HR.out _).mono ?_; rintro r w2 ⟨rfl, hb2⟩; simp only [World.size_alloc] at hb2; obtain ⟨X, HB2, HO2⟩ := HBk.out w2 hb2; have j0 := X.cell 0 _ rfl; have j1 := X.cell 1 _ rfl; have j2 := X.cell 2 _ rfl; have j3 := X.cell 3 _ rfl; have j4 := X.cell 4 _ rfl; clear X))
        go_roundw
        case rel =>
          refine ⟨k + 1, by go_num, by omega, HB2, ?_, HNw⟩
          rw [HM2.out]
          exact HO2
        case measure => simp [intOf]; omega
      · have HM2 : Hid (nowM (l.take (k + 1)) = acc ++ [(⟨x0, x1, x2, x3, x4⟩ : Mb)]) := by have := HM.out; simp only [if_true] at this; exact this
        clear HM
        go_wp2_with (first
          | (go_at_call 95; go_must (refine (HR.out _).mono ?_; rintro r w2 ⟨rfl, hb2⟩; simp only [World.size_alloc] at hb2; obtain ⟨X, HB2, HO2⟩ := HBk.out w2 hb2; have j0 := X.cell 0 _ rfl; have j1 := X.cell 1 _ rfl; have j2 := X.cell 2 _ rfl; have j3 := X.cell 3 _ rfl; have j4 := X.cell 4 _ rfl; clear X))
          | (at_builtin; go_must (refine wpList_append_rows ty26 mc_len (by omega) rfl (.tmp 16) (.tmp 18) rfl _ acc rfl (HO2.alloc _) _ [(⟨x0, x1, x2, x3, x4⟩ : Mb)] rfl (HRow.out w2) (flat_mc_one _) (by have := HNK.out; rw [List.length_append] at this; omega) ?_; intro v3 w3 hr3 hg3 hn3; obtain ⟨a3, q3, hv3, hq3⟩ := slice_of_own hr3; subst hv3)))
        go_roundw
        case rel =>
          refine ⟨k + 1, by go_num, by omega, ?_, ?_, ?_⟩
          · exact (balloc HB2 _).grown hg3 (balloc HB2 _).size (fun j hj => HNw.out j hj)
          · rw [HM2.out]
            rw [List.length_append] at hr3 ⊢
            exact hr3
          · intro j hj
            rw [List.length_append] at hn3
            rcases hn3 j hj with r | r
            · exact HNw.out j r
            · have := (balloc HB2 (.cells #[.int .i64 x0, .int .u64 x1, .int .i64 x2, .int .i64 x3, .int .i64 x4] 116)).size
              omega
        case measure => simp [intOf]; omega
    · go_wp2
      go_ret
      have e : l.take k = l := List.take_of_length_le (by have := HN.out; omega)
      have := HO.out
      rw [e] at this
      exact ⟨_, rfl, rowF_own mc_len this, HNw.out, HB.out⟩
theorem rnow20f {w : World} {v : Value} {l : List Mb} (hv : RowF mc w v l) (hl : l.length ≤ 10000) (e : Int) : Calls Tryz.prog 58 #[stv v e] w fun r w' => ∃ v', r = .returned v' ∧ RowF mc w' v' (nowM l) ∧ (∀ j, v'.ownBlock = some j → w.heap.size ≤ j) ∧ Below w.heap.size w w' := by
  obtain ⟨av, cap, rfl⟩ := hv.len
  have hcap := hv.caps
  have hc1 : l.length ≤ cap := hcap.2.1
  have hc2 : cap ≤ 9223372036854775807 := hcap.2.2
  obtain ⟨n, hn⟩ : ∃ n, n = l.length := ⟨_, rfl⟩
  have HN : Hid (n = l.length) := hn
  rw [← hn] at hc1 hv hl ⊢
  obtain ⟨w1, hw1⟩ : ∃ w1, w1 = w.alloc (.cells #[.slice av n cap, .int .i64 e] 71) := ⟨_, rfl⟩
  have hb1 : Below w.heap.size w w1 := by rw [hw1]; exact balloc (Below.refl _ _) _
  have HB1 : Hid (Below w.heap.size w w1) := hb1
  have X0 : Hid (Blk w1 w.heap.size 71 [.slice av n cap, .int .i64 e]) := by rw [hw1]; exact blk_new w [.slice av n cap, .int .i64 e] 71
  have HV : Hid (∀ w', Below w1.heap.size w1 w' → RowF mc w' (.slice av n cap) l) := fun w' hb => (hv.below hb1).below hb
  have HW1 : Hid (w1 = w.alloc (.cells #[.slice av n cap, .int .i64 e] 71)) := hw1
  clear hv hcap hn hw1 hb1
  unfold stv
  go_enter Tryz.func58, Tryz.ntmps58
  go_upto_region 1 with fail
  rw [← HW1.out]
  go_wp2
  go_loopw [3, 4] (fun vo i wr => ∃ (k : Nat), i = .int .i64 k ∧ k ≤ n ∧ Hid (Below w1.heap.size w1 wr) ∧ Hid (wr.ownsRow 0 117 5 vo (nowM (l.take k)).length (flat mc (nowM (l.take k)))) ∧ Hid (∀ j, vo.ownBlock = some j → w1.heap.size ≤ j)) (fun _ i _ => n - (intOf i).toNat)
  case atStart => exact ⟨0, rfl, by omega, (show Below _ _ _ from Below.refl _ _), World.ownsRow_nil _ _ _ _, (fun j hj => by cases hj)⟩
  case round =>
    obtain ⟨k, rfl, hk, HB, HO, HNw⟩ := hrel
    have x0 := (X0.out.below HB.out).cell 0 _ rfl
    by_cases hki : k < n
    · obtain ⟨av2, cp2, hvo, hcp⟩ := slice_of_own HO.out
      subst hvo
      obtain ⟨m, hm⟩ : ∃ m, l[k]? = some m := ⟨_, List.getElem?_eq_getElem (by have := HN.out; omega)⟩
      have HM : Hid (nowM (l.take (k + 1)) = nowM (l.take k) ++ (if on m = true then [m] else [])) := nowM_snoc hm
      have HL : Hid ((nowM (l.take k)).length ≤ n) := (by have := nowM_le l k; rw [← HN.out] at this; exact this)
      obtain ⟨b, off, ea, hc⟩ := (HV.out wr HB.out).at mc_len hm
      subst ea
      have HRow : Hid (∀ w' : World, RowF mc (w'.alloc (.cells (mc m).toArray 117)) (.slice (some ⟨w'.heap.size, 0, none⟩) 1 1) [m]) := fun w' => rowF_one w' m 117
      obtain ⟨x0', x1, x2, x3, x4⟩ := m
      have c0 := hc 0 _ rfl; have c1 := hc 1 _ rfl; have c2 := hc 2 _ rfl; have c3 := hc 3 _ rfl; have c4 := hc 4 _ rfl
      simp only [Nat.add_zero] at c0
      have HRow : Hid (∀ w' : World, RowF mc (w'.alloc (.cells #[.int .i64 x0', .int .u64 x1, .int .i64 x2, .int .i64 x3, .int .i64 x4] 117)) (.slice (some ⟨w'.heap.size, 0, none⟩) 1 1) [(⟨x0', x1, x2, x3, x4⟩ : Mb)]) := HRow
      have HNK : Hid (((nowM (l.take k)) ++ [(⟨x0', x1, x2, x3, x4⟩ : Mb)]).length ≤ 100000) := (show _ ≤ _ by rw [List.length_append]; have := HL.out; simp; omega)
      generalize hnn : nowM (l.take k) = acc at *
      clear hc hm hnn
      by_cases h3 : x3 = -1
      · have HM2 : Hid (nowM (l.take (k + 1)) = acc ++ [(⟨x0', x1, x2, -1, x4⟩ : Mb)]) := (show _ = _ by have := HM.out; simp [on, h3] at this; exact this)
        subst h3
        clear HM
        go_wp2_with (at_builtin; go_must (refine wpList_append_rows ty30 mc_len (by omega) rfl (.tmp 19) (.tmp 25) rfl _ acc rfl (HO.out.alloc _) _ [(⟨x0', x1, x2, -1, x4⟩ : Mb)] rfl (HRow.out wr) (flat_mc_one _) (by have := HNK.out; rw [List.length_append] at this; omega) ?_; intro v3 w3 hr3 hg3 hn3; obtain ⟨a3, q3, hv3, hq3⟩ := slice_of_own hr3; subst hv3))
        go_roundw
        case rel =>
          refine ⟨k + 1, by go_num, by omega, ?_, ?_, ?_⟩
          · exact (balloc HB.out _).grown hg3 (balloc HB.out _).size (fun j hj => HNw.out j hj)
          · rw [HM2.out]
            rw [List.length_append] at hr3 ⊢
            exact hr3
          · intro j hj
            rw [List.length_append] at hn3
            rcases hn3 j hj with r | r
            · exact HNw.out j r
            · have := (balloc HB.out (.cells #[.int .i64 x0', .int .u64 x1, .int .i64 x2, .int .i64 (-1), .int .i64 x4] 117)).size
              omega
        case measure => simp [intOf]; omega
      · have HM2 : Hid (nowM (l.take (k + 1)) = acc) := (show _ = _ by have := HM.out; simp [on, h3] at this; exact this)
        clear HM
        go_wp2
        go_roundw
        case rel =>
          refine ⟨k + 1, by go_num, by omega, HB, ?_, HNw⟩
          rw [HM2.out]
          exact HO
        case measure => simp [intOf]; omega
    · go_wp2
      go_ret
      have e : l.take k = l := List.take_of_length_le (by have := HN.out; omega)
      have := HO.out
      rw [e] at this
      exact ⟨_, rfl, rowF_own mc_len this, (fun j hj => Nat.le_trans HB1.out.size (HNw.out j hj)), bnext HB1.out HB.out⟩
end
end Go.Proofs.YtjbpfhnagiacmaaGreat
