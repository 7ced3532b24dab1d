/-
  A log's Copy.
-/
import Derived.Test.YthnjbjlhfohpfaaTsH
import Derived.Test.YthnjbjlhfohpfaaTrS
import Derived.Test.YthnjbjlhfohpfaaTsC
import Derived.Test.YthnjbjlhfohpfaaTsF
namespace Go.Proofs.Ythnjbjlhfohpfaa
set_option linter.unusedVariables false
set_option linter.unusedSimpArgs false
set_option synthInstance.maxSize 20000
set_option maxHeartbeats 2000000
set_option maxRecDepth 20000
open Go.RowKit Go.Maps

/-- A row of items that was handed out. -/
structure Was (w : World) (v : Value) (X : List IT) : Prop where
  row : RowF ic w v X
  rd : ∀ x ∈ X, Rd w x.v x.m.b
theorem Was.below {w w' : World} {v : Value} {X : List IT} (h : Was w v X) (hb : Below w.heap.size w w') : Was w' v X := ⟨h.row.below hb, fun x hx => (h.rd x hx).below hb⟩
theorem Was.tw {w w' : World} {v : Value} {X L : List IT} {tb : Nat} {mo mo' : Option Nat} (h : Was w v X) (ht : Tw tb mo w w' mo') (hP : PTr w tb mo L) : Was w' v X := ⟨ht.rowF hP ic_head h.row, fun x hx => ht.rd hP (h.rd x hx)⟩
theorem Was.past {w w' : World} {v : Value} {X : List IT} {g : Nat} {x : IT} (h : Was w v X) (hi : Itp w g x) (hg : w.grownBy w' (some g)) (hne : ∀ k, v.ownBlock = some k → k ≠ g) : Was w' v X := ⟨h.row.blocks fun j hj hlt => hg.block j hlt (fun e => hne j hj (Option.some.inj e)), fun x hx => rd_pastitp (h.rd x hx) hi hg⟩
theorem ThoseAns.was {w w' : World} {L : List IT} {e : Ending} (h : ThoseAns w L anyI e w') : ∃ v X, e = .returned v ∧ Was w' v X ∧ X.map IT.m = L.map IT.m ∧ (∀ k, v.ownBlock = some k → w.heap.size ≤ k ∧ k < w'.heap.size) ∧ Below w.heap.size w w' := by
  obtain ⟨v, X, he, ho, hm, hown, hb⟩ := h
  exact ⟨v, X, he, ⟨ho.row, fun x hx => (hown x hx).rd⟩, by rw [hm, show (L.map IT.m).filter anyI = L.map IT.m from List.filter_eq_self.2 fun _ _ => rfl], fun k hk => ⟨ho.new k hk, (ho.own.lt k hk).2⟩, hb⟩
theorem all17w {w : World} {tb : Nat} {mo : Option Nat} {L : List IT} (h : PTr w tb mo L) (few : L.length ≤ 500) : Calls Try.prog 22 #[ptr tb] w fun e w' => ∃ v X, e = .returned v ∧ Was w' v X ∧ X.map IT.m = L.map IT.m ∧ (∀ k, v.ownBlock = some k → w.heap.size ≤ k ∧ k < w'.heap.size) ∧ Below w.heap.size w w' := (all17 h few).mono fun e w' h => h.was
theorem items16w {w : World} {v : Value} {X : List IT} (h : Was w v X) (few : X.length ≤ 1000) : Calls Try.prog 21 #[v] w fun e w' => ∃ v', e = .returned v' ∧ Was w' v' X ∧ Below w.heap.size w w' := by
  refine (items16 h.row few).mono ?_
  rintro e w' ⟨v', rfl, ho, hb⟩
  exact ⟨v', rfl, ⟨ho.row, fun x hx => (h.rd x hx).below hb⟩, hb⟩
theorem same15w {w : World} {v u : Value} {X Y : List IT} (hv : Was w v X) (hu : Was w u Y) (h : X.map IT.m = Y.map IT.m) : Calls Try.prog 23 #[v, u] w fun e w' => e = .returned (.bool true) ∧ Below w.heap.size w w' := rsameL15 hv.row hu.row hv.rd hu.rd h
theorem map_len {X : List IT} {M : List IM} (h : X.map IT.m = M) : X.length = M.length := by rw [← h, List.length_map]
/-- What Copy answers. -/
def CopyAns (w : World) (LA : List IT) (UA : List ST) (e : Ending) (w' : World) : Prop := ∃ lo tq v mo L T, e = .returned (ptr lo) ∧ LogAt w' lo v tq mo L T ∧ Ob T = Ob UA ∧ L.map IT.m = LA.map IT.m ∧ w.heap.size ≤ lo ∧ w.heap.size ≤ tq ∧ (∀ k, mo = some k → w.heap.size ≤ k) ∧ (∀ k, v.ownBlock = some k → w.heap.size ≤ k) ∧ Below w.heap.size w w'
set_option maxHeartbeats 8000000 in
theorem copy20 {w : World} {la ta : Nat} {va : Value} {ma : Option Nat} {LA : List IT} {U : List ST} (h : LogAt w la va ta ma LA U) : Calls Try.prog 20 #[ptr la] w (CopyAns w LA U) := by
  obtain ⟨a, c, rfl⟩ := h.row.len
  have hcap := h.row.rowF.caps.2
  have hf := h.few
  have HL : Hid (LogAt w la (.slice a U.length c) ta ma LA U) := h
  have HNw : Hid (Calls Try.prog 9 #[] w (NewAns w)) := new9 w
  clear h
  generalize hN : U.length = N at *
  have HN : Hid (U.length = N) := hN
  clear hN
  go_enter Try.func20, Try.ntmps20
  go_upto_region 4 with (go_at_call 9; go_must (refine HNw.out.mono ?_; rintro e w1 ⟨lo, tq, rfl, hA, hlo, htq, hb⟩; have HB1 : Hid (Below w.heap.size w w1) := hb; have HC1 : Hid (Cy w.heap.size w1 lo (.slice none 0 0) tq none [] [] []) := ⟨hA.blk, hA.row, hA.tree, rfl, (fun t ht => (by cases ht)), hlo, htq, (fun k hk => (by cases hk)), (fun k hk => (by cases hk))⟩; clear hA hlo htq hb))
  have cA := (HL.out.below HB1.out).blk.cell 0 _ rfl
  clear HNw
  go_wp2
  clear cA
  go_loopw [5, 16] (fun _ i wr => ∃ (k : Nat) (v : Value) (T : List ST), i = .int .i64 (k : Int) ∧ k ≤ N ∧ Hid (T.length = k) ∧ Hid (Cy w.heap.size wr lo v tq none [] (U.take k) T) ∧ Hid (Below w.heap.size w wr)) (fun _ i _ => N - (intOf i).toNat)
  case atStart => exact ⟨0, .slice none 0 0, [], rfl, Nat.zero_le _, rfl, HC1, HB1⟩
  case round =>
    obtain ⟨k, v, T, rfl, hk, HTL, HC, HB⟩ := hrel
    clear HC1 HB1
    rename World => wr
    by_cases hlt : k < N
    · have hkI : (k : Int) < (N : Int) := by omega
      obtain ⟨x, hx⟩ : ∃ x, U[k]? = some x := ⟨_, List.getElem?_eq_getElem (by have := HN.out; omega)⟩
      have hxm : x ∈ U := List.mem_of_getElem? hx
      have HTA : Hid (U.take (k + 1) = U.take k ++ [x]) := by
        show _ = _
        obtain ⟨h1, h2⟩ := List.getElem?_eq_some_iff.1 hx
        rw [List.take_succ_eq_append_getElem h1, h2]
      obtain ⟨g, cap', hv⟩ := HL.out.row.someRow hx
      injection hv with e1 e2 e3
      subst e1
      clear e2 e3
      have HCx : Hid (wr.rangeAt g (k * 21) (tc x)) := by
        have h1 := HL.out.row.below HB.out
        rw [← HN.out] at h1
        exact h1.load hx
      have hok := HL.out.ok x hxm
      have HK : Hid (∀ w', Below w.heap.size w w' → Calls Try.prog 38 #[tv x] w' fun e w'' => ∃ t, e = .returned (tv t) ∧ CopyS w'.heap.size w'' x t ∧ Below w'.heap.size w' w'') := fun w' hb => copied38 x w' (hok.rq.below hb) hok.lq (hok.rx.below hb) hok.lx
      have HTh : Hid ((wr.alloc (.cells (tc tz).toArray 76)).there wr.heap.size 0 21) := (stb_new wr tz).there
      have hT60 : T.length ≤ 1000 := by have := HTL.out; omega
      clear hx hxm hok
      go_upto_region 7 with (first
        | (refine wpList_okw rfl (exec_load76 (q := x) (.tmp 18) rfl rfl HCx.out) ?_)
        | (refine wpList_okw rfl (exec_alloc76 rfl) ?_)
        | (refine wpList_skipw rfl (exec_store76 (q := x) (.tmp 5) (.tmp 19) rfl rfl rfl HTh.out) ?_; obtain ⟨w2, hw2⟩ : ∃ w2, w2 = (wr.alloc (.cells (tc tz).toArray 76)).setCells wr.heap.size 0 (tc x) := ⟨_, rfl⟩; rw [← hw2]; have HS2 : Hid (w2.rangeAt wr.heap.size 0 (tc x)) := (show World.rangeAt _ _ _ _ from by rw [hw2]; exact ((stb_new wr tz).put x).load); have HB2 : Hid (Below wr.heap.size wr w2) := (show Below _ _ _ from by rw [hw2]; exact below_put (balloc (Below.refl _ _) _) (Nat.le_refl _)); clear hw2 HTh))
      have HC2 : Hid (Cy w.heap.size w2 lo v tq none [] (U.take k) T) := HC.out.below HB2.out
      have HBw2 : Hid (Below w.heap.size w w2) := bnext HB.out HB2.out
      clear HC HB HB2 HCx
      go_simp
      have ne : Nonempty (WIn (fun _ => True)) := ⟨⟨w2.drew, trivial⟩⟩
      refine wp_region_tree (C := fun w' => ∃ z : WIn (fun _ => True), w' = z.w) (.still 0 (.still 1 (.still 2 (.still 3 (.two 4 (.one 5 (.one 6 (.one 7 (.one 8 (.still 9 (.still 10 (.one 11 .done))))))) 5 (.two 4 (.one 6 (.one 7 (.one 8 (.still 9 (.still 10 (.one 11 .done)))))) 6 (.two 4 (.one 7 (.one 8 (.still 9 (.still 10 (.one 11 .done))))) 7 (.one 4 (.one 8 (.still 9 (.still 10 (.one 11 .done)))))))))))) (by kernel_rfl) (by kernel_rfl) ⟨⟨w2.drew, trivial⟩, rfl⟩ ?_
      refine tree_still rfl rfl ?_
      go_big_quiet_step (fail)
      refine wpQuiet_nil ?_
      refine tree_still rfl rfl ?_
      go_big_quiet_step (fail)
      refine wpQuiet_nil ?_
      refine tree_still rfl rfl ?_
      go_big_quiet_step (fail)
      refine wpQuiet_nil ?_
      refine tree_still rfl rfl ?_
      go_big_quiet_step (fail)
      refine wpQuiet_nil ?_
      refine tree_two rfl rfl rfl rfl ?_ ?_
      · have cO : World.cell? (w2.drew) ⟨lo, 0, none⟩ = some v := (HC2.out.below (below_drewn w2 1)).blk.cell 0 _ rfl
        go_simp
        refine ⟨⟨⟨w2.drew, trivial⟩, rfl⟩, ?_⟩
        clear cO
        go_simp
        refine tree_one rfl rfl ?_
        refine wp_ok (exec_load76 (q := x) (.tmp 5) rfl rfl (rangeAt_blocks HS2.out (fun hk => (below_drewn w2 1).block _ hk))) ?_
        refine ⟨⟨⟨w2.drew, trivial⟩, rfl⟩, ?_⟩
        go_simp
        refine tree_one rfl rfl ?_
        go_simp
        refine (HK.out _ (bnext HBw2.out (below_drewn w2 1))).mono ?_
        rintro r w3 ⟨t, rfl, hcp, hb3⟩
        have HB3 : Hid (Below w2.heap.size w2 w3) := bnext (below_drewn w2 1) hb3
        have HCT : Hid (CopyS w2.heap.size w3 x t) := ⟨hcp.bq, hcp.xm, hcp.b, hcp.oq.lower (below_drewn w2 1).size, hcp.ox.lower (below_drewn w2 1).size⟩
        obtain ⟨w7, hw7⟩ : ∃ w7, w7 = w3.alloc (.cells (tc t).toArray 76) := ⟨_, rfl⟩
        obtain ⟨p7, hp7⟩ : ∃ p7, p7 = w3.heap.size := ⟨_, rfl⟩
        have HW7 : Hid (w7 = w3.alloc (.cells (tc t).toArray 76)) := hw7
        have HP7 : Hid (p7 = w3.heap.size) := hp7
        have HX7 : Hid (Blk w7 p7 76 (tc t)) := (show Blk _ _ _ _ from by rw [hw7, hp7]; exact stb_new w3 t)
        have HB7 : Hid (Below w2.heap.size w2 w7) := (show Below _ _ _ from by rw [hw7]; exact balloc HB3.out _)
        have HB37 : Hid (Below w3.heap.size w3 w7) := (show Below _ _ _ from by rw [hw7]; exact balloc (Below.refl _ _) _)
        clear hw7 hp7 hcp hb3
        refine ⟨⟨⟨w3, trivial⟩, rfl⟩, ?_⟩
        go_simp
        refine tree_one rfl rfl ?_
        refine wp_ok (exec_slice76 (q := t) (.tmp 26) rfl rfl) ?_
        rw [← HW7.out, ← HP7.out]
        refine ⟨⟨⟨w7, trivial⟩, rfl⟩, ?_⟩
        go_simp
        refine tree_one rfl rfl ?_
        have HC7 : Hid (Cy w.heap.size w7 lo v tq none [] (U.take k) T) := HC2.out.below HB7.out
        obtain ⟨v8, w8, hr8, r1, r2, r3⟩ := run_append_step w7 v T t p7 HC7.out.row HX7.out hT60
        obtain ⟨a8, n8, q8, he8⟩ : ∃ a n c, v8 = .slice a n c := by obtain ⟨a, c, e⟩ := r1.len; exact ⟨a, _, c, e⟩
        subst he8
        obtain ⟨j1, j2, j3⟩ := cy_step HC7.out (bnext HBw2.out HB7.out) r1 r2 r3 (HCT.out.oq.rd.below HB37.out) (HCT.out.ox.rd.below HB37.out) HCT.out.key
        have HR8 : Hid (∀ ty, (Builtin.append_ #[66, 66] ty #[v, .slice (some ⟨p7, 0, none⟩) 1 1]).run Try.prog w7 = .ok (.slice a8 n8 q8) w8) := hr8
        have HL8 : Hid (Blk w8 lo 68 [v, ptr tq]) := j1
        have HC9 : Hid (Cy w.heap.size (w8.setCell ⟨lo, 0, none⟩ (.slice a8 n8 q8)) lo (.slice a8 n8 q8) tq none [] (U.take (k + 1)) (T ++ [t])) := (show Cy _ _ _ _ _ _ _ _ _ from by rw [HTA.out]; exact j2)
        have HB9 : Hid (Below w.heap.size w (w8.setCell ⟨lo, 0, none⟩ (.slice a8 n8 q8))) := j3
        clear hr8 r1 r2 r3 j1 j2 j3
        refine wp_of_list rfl ?_
        refine wpList_append_at rfl (.tmp 24) (.tmp 27) 66 66 rfl _ _ rfl rfl HR8.out ?_
        refine ⟨rfl, ⟨⟨w8, trivial⟩, rfl⟩, ?_⟩
        go_simp
        refine tree_still rfl rfl ?_
        go_big_quiet_step (fail)
        refine wpQuiet_nil ?_
        refine tree_still rfl rfl ?_
        go_big_quiet_step (fail)
        refine wpQuiet_nil ?_
        refine tree_one rfl rfl ?_
        have c8 : w8.cell? ⟨lo, 0, none⟩ = some v := HL8.out.cell 0 _ rfl
        have f8 : w8.frozen? ⟨lo, 0, none⟩ = false := HL8.out.frozen 0
        go_simp
        clear c8 f8
        refine ⟨⟨⟨_, trivial⟩, rfl⟩, ?_⟩
        go_simp
        refine tree_done ?_
        clear ne
        go_wp2
        go_roundw
        case rel => exact ⟨k + 1, (.slice a8 n8 q8), T ++ [t], by go_num, by omega, by show _ = _; have := HTL.out; simp; omega, HC9, HB9⟩
        case measure => simp [intOf]; omega
      · refine wp_ok (exec_load76 (q := x) (.tmp 5) rfl rfl (rangeAt_blocks HS2.out (fun hk => (below_drewn w2 1).block _ hk))) ?_
        refine ⟨⟨⟨w2.drew, trivial⟩, rfl⟩, ?_⟩
        go_simp
        refine tree_two rfl rfl rfl rfl ?_ ?_
        · have cO : World.cell? (w2.drew) ⟨lo, 0, none⟩ = some v := (HC2.out.below (below_drewn w2 1)).blk.cell 0 _ rfl
          go_simp
          refine ⟨⟨⟨w2.drew, trivial⟩, rfl⟩, ?_⟩
          clear cO
          go_simp
          refine tree_one rfl rfl ?_
          go_simp
          refine (HK.out _ (bnext HBw2.out (below_drewn w2 1))).mono ?_
          rintro r w3 ⟨t, rfl, hcp, hb3⟩
          have HB3 : Hid (Below w2.heap.size w2 w3) := bnext (below_drewn w2 1) hb3
          have HCT : Hid (CopyS w2.heap.size w3 x t) := ⟨hcp.bq, hcp.xm, hcp.b, hcp.oq.lower (below_drewn w2 1).size, hcp.ox.lower (below_drewn w2 1).size⟩
          obtain ⟨w7, hw7⟩ : ∃ w7, w7 = w3.alloc (.cells (tc t).toArray 76) := ⟨_, rfl⟩
          obtain ⟨p7, hp7⟩ : ∃ p7, p7 = w3.heap.size := ⟨_, rfl⟩
          have HW7 : Hid (w7 = w3.alloc (.cells (tc t).toArray 76)) := hw7
          have HP7 : Hid (p7 = w3.heap.size) := hp7
          have HX7 : Hid (Blk w7 p7 76 (tc t)) := (show Blk _ _ _ _ from by rw [hw7, hp7]; exact stb_new w3 t)
          have HB7 : Hid (Below w2.heap.size w2 w7) := (show Below _ _ _ from by rw [hw7]; exact balloc HB3.out _)
          have HB37 : Hid (Below w3.heap.size w3 w7) := (show Below _ _ _ from by rw [hw7]; exact balloc (Below.refl _ _) _)
          clear hw7 hp7 hcp hb3
          refine ⟨⟨⟨w3, trivial⟩, rfl⟩, ?_⟩
          go_simp
          refine tree_one rfl rfl ?_
          refine wp_ok (exec_slice76 (q := t) (.tmp 26) rfl rfl) ?_
          rw [← HW7.out, ← HP7.out]
          refine ⟨⟨⟨w7, trivial⟩, rfl⟩, ?_⟩
          go_simp
          refine tree_one rfl rfl ?_
          have HC7 : Hid (Cy w.heap.size w7 lo v tq none [] (U.take k) T) := HC2.out.below HB7.out
          obtain ⟨v8, w8, hr8, r1, r2, r3⟩ := run_append_step w7 v T t p7 HC7.out.row HX7.out hT60
          obtain ⟨a8, n8, q8, he8⟩ : ∃ a n c, v8 = .slice a n c := by obtain ⟨a, c, e⟩ := r1.len; exact ⟨a, _, c, e⟩
          subst he8
          obtain ⟨j1, j2, j3⟩ := cy_step HC7.out (bnext HBw2.out HB7.out) r1 r2 r3 (HCT.out.oq.rd.below HB37.out) (HCT.out.ox.rd.below HB37.out) HCT.out.key
          have HR8 : Hid (∀ ty, (Builtin.append_ #[66, 66] ty #[v, .slice (some ⟨p7, 0, none⟩) 1 1]).run Try.prog w7 = .ok (.slice a8 n8 q8) w8) := hr8
          have HL8 : Hid (Blk w8 lo 68 [v, ptr tq]) := j1
          have HC9 : Hid (Cy w.heap.size (w8.setCell ⟨lo, 0, none⟩ (.slice a8 n8 q8)) lo (.slice a8 n8 q8) tq none [] (U.take (k + 1)) (T ++ [t])) := (show Cy _ _ _ _ _ _ _ _ _ from by rw [HTA.out]; exact j2)
          have HB9 : Hid (Below w.heap.size w (w8.setCell ⟨lo, 0, none⟩ (.slice a8 n8 q8))) := j3
          clear hr8 r1 r2 r3 j1 j2 j3
          refine wp_of_list rfl ?_
          refine wpList_append_at rfl (.tmp 24) (.tmp 27) 66 66 rfl _ _ rfl rfl HR8.out ?_
          refine ⟨rfl, ⟨⟨w8, trivial⟩, rfl⟩, ?_⟩
          go_simp
          refine tree_still rfl rfl ?_
          go_big_quiet_step (fail)
          refine wpQuiet_nil ?_
          refine tree_still rfl rfl ?_
          go_big_quiet_step (fail)
          refine wpQuiet_nil ?_
          refine tree_one rfl rfl ?_
          have c8 : w8.cell? ⟨lo, 0, none⟩ = some v := HL8.out.cell 0 _ rfl
          have f8 : w8.frozen? ⟨lo, 0, none⟩ = false := HL8.out.frozen 0
          go_simp
          clear c8 f8
          refine ⟨⟨⟨_, trivial⟩, rfl⟩, ?_⟩
          go_simp
          refine tree_done ?_
          clear ne
          go_wp2
          go_roundw
          case rel => exact ⟨k + 1, (.slice a8 n8 q8), T ++ [t], by go_num, by omega, by show _ = _; have := HTL.out; simp; omega, HC9, HB9⟩
          case measure => simp [intOf]; omega
        · go_simp
          refine (HK.out _ (bnext HBw2.out (below_drewn w2 1))).mono ?_
          rintro r w3 ⟨t, rfl, hcp, hb3⟩
          have HB3 : Hid (Below w2.heap.size w2 w3) := bnext (below_drewn w2 1) hb3
          have HCT : Hid (CopyS w2.heap.size w3 x t) := ⟨hcp.bq, hcp.xm, hcp.b, hcp.oq.lower (below_drewn w2 1).size, hcp.ox.lower (below_drewn w2 1).size⟩
          obtain ⟨w7, hw7⟩ : ∃ w7, w7 = w3.alloc (.cells (tc t).toArray 76) := ⟨_, rfl⟩
          obtain ⟨p7, hp7⟩ : ∃ p7, p7 = w3.heap.size := ⟨_, rfl⟩
          have HW7 : Hid (w7 = w3.alloc (.cells (tc t).toArray 76)) := hw7
          have HP7 : Hid (p7 = w3.heap.size) := hp7
          have HX7 : Hid (Blk w7 p7 76 (tc t)) := (show Blk _ _ _ _ from by rw [hw7, hp7]; exact stb_new w3 t)
          have HB7 : Hid (Below w2.heap.size w2 w7) := (show Below _ _ _ from by rw [hw7]; exact balloc HB3.out _)
          have HB37 : Hid (Below w3.heap.size w3 w7) := (show Below _ _ _ from by rw [hw7]; exact balloc (Below.refl _ _) _)
          clear hw7 hp7 hcp hb3
          refine ⟨⟨⟨w3, trivial⟩, rfl⟩, ?_⟩
          go_simp
          refine tree_two rfl rfl rfl rfl ?_ ?_
          · have cO : World.cell? (w3) ⟨lo, 0, none⟩ = some v := (HC2.out.below HB3.out).blk.cell 0 _ rfl
            go_simp
            refine ⟨⟨⟨w3, trivial⟩, rfl⟩, ?_⟩
            clear cO
            go_simp
            refine tree_one rfl rfl ?_
            refine wp_ok (exec_slice76 (q := t) (.tmp 26) rfl rfl) ?_
            rw [← HW7.out, ← HP7.out]
            refine ⟨⟨⟨w7, trivial⟩, rfl⟩, ?_⟩
            go_simp
            refine tree_one rfl rfl ?_
            have HC7 : Hid (Cy w.heap.size w7 lo v tq none [] (U.take k) T) := HC2.out.below HB7.out
            obtain ⟨v8, w8, hr8, r1, r2, r3⟩ := run_append_step w7 v T t p7 HC7.out.row HX7.out hT60
            obtain ⟨a8, n8, q8, he8⟩ : ∃ a n c, v8 = .slice a n c := by obtain ⟨a, c, e⟩ := r1.len; exact ⟨a, _, c, e⟩
            subst he8
            obtain ⟨j1, j2, j3⟩ := cy_step HC7.out (bnext HBw2.out HB7.out) r1 r2 r3 (HCT.out.oq.rd.below HB37.out) (HCT.out.ox.rd.below HB37.out) HCT.out.key
            have HR8 : Hid (∀ ty, (Builtin.append_ #[66, 66] ty #[v, .slice (some ⟨p7, 0, none⟩) 1 1]).run Try.prog w7 = .ok (.slice a8 n8 q8) w8) := hr8
            have HL8 : Hid (Blk w8 lo 68 [v, ptr tq]) := j1
            have HC9 : Hid (Cy w.heap.size (w8.setCell ⟨lo, 0, none⟩ (.slice a8 n8 q8)) lo (.slice a8 n8 q8) tq none [] (U.take (k + 1)) (T ++ [t])) := (show Cy _ _ _ _ _ _ _ _ _ from by rw [HTA.out]; exact j2)
            have HB9 : Hid (Below w.heap.size w (w8.setCell ⟨lo, 0, none⟩ (.slice a8 n8 q8))) := j3
            clear hr8 r1 r2 r3 j1 j2 j3
            refine wp_of_list rfl ?_
            refine wpList_append_at rfl (.tmp 24) (.tmp 27) 66 66 rfl _ _ rfl rfl HR8.out ?_
            refine ⟨rfl, ⟨⟨w8, trivial⟩, rfl⟩, ?_⟩
            go_simp
            refine tree_still rfl rfl ?_
            go_big_quiet_step (fail)
            refine wpQuiet_nil ?_
            refine tree_still rfl rfl ?_
            go_big_quiet_step (fail)
            refine wpQuiet_nil ?_
            refine tree_one rfl rfl ?_
            have c8 : w8.cell? ⟨lo, 0, none⟩ = some v := HL8.out.cell 0 _ rfl
            have f8 : w8.frozen? ⟨lo, 0, none⟩ = false := HL8.out.frozen 0
            go_simp
            clear c8 f8
            refine ⟨⟨⟨_, trivial⟩, rfl⟩, ?_⟩
            go_simp
            refine tree_done ?_
            clear ne
            go_wp2
            go_roundw
            case rel => exact ⟨k + 1, (.slice a8 n8 q8), T ++ [t], by go_num, by omega, by show _ = _; have := HTL.out; simp; omega, HC9, HB9⟩
            case measure => simp [intOf]; omega
          · refine wp_ok (exec_slice76 (q := t) (.tmp 26) rfl rfl) ?_
            rw [← HW7.out, ← HP7.out]
            refine ⟨⟨⟨w7, trivial⟩, rfl⟩, ?_⟩
            go_simp
            refine tree_one rfl rfl ?_
            have cO : World.cell? (w7) ⟨lo, 0, none⟩ = some v := (HC2.out.below HB7.out).blk.cell 0 _ rfl
            go_simp
            refine ⟨⟨⟨w7, trivial⟩, rfl⟩, ?_⟩
            clear cO
            go_simp
            refine tree_one rfl rfl ?_
            have HC7 : Hid (Cy w.heap.size w7 lo v tq none [] (U.take k) T) := HC2.out.below HB7.out
            obtain ⟨v8, w8, hr8, r1, r2, r3⟩ := run_append_step w7 v T t p7 HC7.out.row HX7.out hT60
            obtain ⟨a8, n8, q8, he8⟩ : ∃ a n c, v8 = .slice a n c := by obtain ⟨a, c, e⟩ := r1.len; exact ⟨a, _, c, e⟩
            subst he8
            obtain ⟨j1, j2, j3⟩ := cy_step HC7.out (bnext HBw2.out HB7.out) r1 r2 r3 (HCT.out.oq.rd.below HB37.out) (HCT.out.ox.rd.below HB37.out) HCT.out.key
            have HR8 : Hid (∀ ty, (Builtin.append_ #[66, 66] ty #[v, .slice (some ⟨p7, 0, none⟩) 1 1]).run Try.prog w7 = .ok (.slice a8 n8 q8) w8) := hr8
            have HL8 : Hid (Blk w8 lo 68 [v, ptr tq]) := j1
            have HC9 : Hid (Cy w.heap.size (w8.setCell ⟨lo, 0, none⟩ (.slice a8 n8 q8)) lo (.slice a8 n8 q8) tq none [] (U.take (k + 1)) (T ++ [t])) := (show Cy _ _ _ _ _ _ _ _ _ from by rw [HTA.out]; exact j2)
            have HB9 : Hid (Below w.heap.size w (w8.setCell ⟨lo, 0, none⟩ (.slice a8 n8 q8))) := j3
            clear hr8 r1 r2 r3 j1 j2 j3
            refine wp_of_list rfl ?_
            refine wpList_append_at rfl (.tmp 24) (.tmp 27) 66 66 rfl _ _ rfl rfl HR8.out ?_
            refine ⟨rfl, ⟨⟨w8, trivial⟩, rfl⟩, ?_⟩
            go_simp
            refine tree_still rfl rfl ?_
            go_big_quiet_step (fail)
            refine wpQuiet_nil ?_
            refine tree_still rfl rfl ?_
            go_big_quiet_step (fail)
            refine wpQuiet_nil ?_
            refine tree_one rfl rfl ?_
            have c8 : w8.cell? ⟨lo, 0, none⟩ = some v := HL8.out.cell 0 _ rfl
            have f8 : w8.frozen? ⟨lo, 0, none⟩ = false := HL8.out.frozen 0
            go_simp
            clear c8 f8
            refine ⟨⟨⟨_, trivial⟩, rfl⟩, ?_⟩
            go_simp
            refine tree_done ?_
            clear ne
            go_wp2
            go_roundw
            case rel => exact ⟨k + 1, (.slice a8 n8 q8), T ++ [t], by go_num, by omega, by show _ = _; have := HTL.out; simp; omega, HC9, HB9⟩
            case measure => simp [intOf]; omega
    have hkI : ¬ (k : Int) < (N : Int) := by omega
    have HCf : Hid (Cy w.heap.size wr lo v tq none [] U T) := by
      have := HC.out
      rwa [List.take_of_length_le (by have := HN.out; omega)] at this
    have HTr : Hid (Calls Try.prog 16 #[ptr la] wr fun e w' => e = .returned (ptr ta) ∧ Below wr.heap.size wr w') := tree16 (HL.out.below HB.out).blk
    clear HC HTL hlt hk
    go_upto_region 10 with (first
      | (go_at_call 16; go_must (refine HTr.out.mono ?_; rintro e wa ⟨rfl, hb⟩; have HBa : Hid (Below wr.heap.size wr wa) := hb; have HAl : Hid (Calls Try.prog 22 #[ptr ta] wa fun e w' => ∃ v X, e = .returned v ∧ Was w' v X ∧ X.map IT.m = LA.map IT.m ∧ (∀ k, v.ownBlock = some k → wa.heap.size ≤ k ∧ k < w'.heap.size) ∧ Below wa.heap.size wa w') := all17w (HL.out.below (bnext HB.out hb)).tree (by have := HL.out.fewL; omega); clear hb))
      | (go_at_call 22; go_must (refine HAl.out.mono ?_; rintro e wb ⟨vx, X, rfl, hwx, hmx, _, hb⟩; obtain ⟨ax, cx, rfl⟩ := hwx.row.len; have HBb : Hid (Below wr.heap.size wr wb) := bnext HBa.out hb; have HWx : Hid (Was wb (.slice ax X.length cx) X) := hwx; have HMx : Hid (X.map IT.m = LA.map IT.m) := hmx; clear hb hmx hwx)))
    have hcx := HWx.out.row.caps
    have HXL : Hid (X.length ≤ 60) := (show _ ≤ _ from by have := map_len HMx.out; rw [List.length_map] at this; have := HL.out.fewL; omega)
    have HC4 : Hid (Cy w.heap.size wb lo v tq none [] U T) := HCf.out.below HBb.out
    have HB4 : Hid (Below w.heap.size w wb) := bnext HB.out HBb.out
    clear HCf HBb HBa HB HTr HAl
    go_wp2
    go_loopw [7, 36] (fun _ i wd => ∃ (k : Nat) (mo : Option Nat) (L : List IT), i = .int .i64 (k : Int) ∧ k ≤ X.length ∧ Hid (L.map IT.m = (LA.map IT.m).take k) ∧ Hid (Was wd (.slice ax X.length cx) X) ∧ Hid (Cy w.heap.size wd lo v tq mo L U T) ∧ Hid (Below w.heap.size w wd)) (fun _ i _ => X.length - (intOf i).toNat)
    case atStart => exact ⟨0, none, [], rfl, Nat.zero_le _, rfl, HWx, HC4, HB4⟩
    case round =>
      obtain ⟨k, mo, L, rfl, hk, HML, HWd, HCd, HBd⟩ := hrel
      clear HWx HC4 HB4
      rename World => wd
      by_cases hlt : k < X.length
      · have hkI : (k : Int) < (X.length : Int) := by omega
        obtain ⟨x, hx⟩ : ∃ x, X[k]? = some x := ⟨_, List.getElem?_eq_getElem hlt⟩
        obtain ⟨bx, ox, rfl, hc⟩ := RowF.at ic_len HWd.out.row hx
        have HXM : Hid ((LA.map IT.m)[k]? = some x.m) := by
          show _ = _
          rw [← HMx.out, List.getElem?_map, hx]; rfl
        have HCx : Hid (wd.rangeAt bx (ox + k * 10) (ic x)) := hc
        obtain ⟨y, hy, hym⟩ : ∃ y ∈ LA, y.m = x.m := by
          have : x.m ∈ LA.map IT.m := List.mem_of_getElem? HXM.out
          obtain ⟨y, h1, h2⟩ := List.mem_map.1 this
          exact ⟨y, h1, h2⟩
        have HRx : Hid (rightB x.m.n = true ∧ SOk x.m.p ∧ x.m.b.length ≤ 1000) := by
          rw [← hym]
          exact ⟨HL.out.namesR y hy, (HL.out.tree.ok y hy).2.1, (HL.out.tree.ok y hy).2.2⟩
        have HRd : Hid (Rd wd x.v x.m.b) := HWd.out.rd x (List.mem_of_getElem? hx)
        have HTh : Hid ((wd.alloc (.cells (ic zT).toArray 59)).there wd.heap.size 0 10) := (itp_new wd zT).there
        have HLl : Hid (L.length ≤ 60) := (show _ ≤ _ from by have h1 := map_len HML.out; rw [List.length_take, List.length_map] at h1; have := HL.out.fewL; omega)
        clear hx hc hy hym
        go_upto_region 12 with (first
          | (refine wpList_okw rfl (exec_load35 (q := x) (.tmp 38) rfl rfl HCx.out) ?_)
          | (refine wpList_okw rfl (exec_alloc35 rfl) ?_)
          | (refine wpList_skipw rfl (exec_store35 (q := x) (.tmp 7) (.tmp 39) rfl rfl rfl HTh.out) ?_; obtain ⟨w5, hw5⟩ : ∃ w5, w5 = (wd.alloc (.cells (ic zT).toArray 59)).setCells wd.heap.size 0 (ic x) := ⟨_, rfl⟩; rw [← hw5]; have HS5 : Hid (w5.rangeAt wd.heap.size 0 (ic x)) := (show World.rangeAt _ _ _ _ from by rw [hw5]; exact ((itp_new wd zT).put x).range); have HB5 : Hid (Below wd.heap.size wd w5) := (show Below _ _ _ from by rw [hw5]; exact below_put (balloc (Below.refl _ _) _) (Nat.le_refl _)); clear hw5 HTh))
        have HC5 : Hid (Cy w.heap.size w5 lo v tq mo L U T) := HCd.out.below HB5.out
        have HBw5 : Hid (Below w.heap.size w w5) := bnext HBd.out HB5.out
        have HSet : Hid (∀ w', Below w5.heap.size w5 w' → Calls Try.prog 42 #[ptr tq, iv x, .bool true] w' fun e w'' => e = .returned (.int .i64 0) ∧ ∃ mo' L', PTr w'' tq mo' L' ∧ L'.map IT.m = setM (L.map IT.m) x.m true ∧ Tw tq mo w' w'' mo' ∧ StaysM true mo mo') := fun w' hb => set30p (HC5.out.below hb).tree x (HRd.out.below (bnext HB5.out hb)) HRx.out.2.2 HRx.out.1 HRx.out.2.1 (by have := HLl.out; omega) true
        clear HCx
        go_simp
        have ne : Nonempty (WIn (fun _ => True)) := ⟨⟨w5.drew, trivial⟩⟩
        refine wp_region_tree (C := fun w' => ∃ z : WIn (fun _ => True), w' = z.w) (.still 0 (.still 1 (.still 2 (.two 3 (.one 4 (.one 5 .done)) 4 (.one 3 (.one 5 .done)))))) (by kernel_rfl) (by kernel_rfl) ⟨⟨w5.drew, trivial⟩, rfl⟩ ?_
        refine tree_still rfl rfl ?_
        go_big_quiet_step (fail)
        refine wpQuiet_nil ?_
        refine tree_still rfl rfl ?_
        go_big_quiet_step (fail)
        refine wpQuiet_nil ?_
        refine tree_still rfl rfl ?_
        go_big_quiet_step (fail)
        refine wpQuiet_nil ?_
        refine tree_two rfl rfl rfl rfl ?_ ?_
        · have cT : World.cell? (w5.drew) ⟨lo, 1, none⟩ = some (ptr tq) := (HC5.out.below (below_drewn w5 1)).blk.cell 1 _ rfl
          go_simp
          refine ⟨⟨⟨w5.drew, trivial⟩, rfl⟩, ?_⟩
          clear cT
          go_simp
          refine tree_one rfl rfl ?_
          refine wp_ok (exec_load35 (q := x) (.tmp 7) rfl rfl (rangeAt_blocks HS5.out (fun hk => (below_drewn w5 1).block _ hk))) ?_
          refine ⟨⟨⟨w5.drew, trivial⟩, rfl⟩, ?_⟩
          go_simp
          refine tree_one rfl rfl ?_
          go_simp
          refine (HSet.out _ (below_drewn w5 1)).mono ?_
          rintro r w6 ⟨rfl, m6, L6, d1, d2, d3, _⟩
          have HT6 : Hid (Tw tq mo _ w6 m6) := d3
          have HP6 : Hid (PTr w6 tq m6 L6) := d1
          have HM6 : Hid (L6.map IT.m = setM (L.map IT.m) x.m true) := d2
          have HW6 : Hid (Was w6 (.slice (some ⟨bx, ox, none⟩) X.length cx) X) := (HWd.out.below (bnext HB5.out (below_drewn w5 1))).tw d3 (HC5.out.below (below_drewn w5 1)).tree
          have HCB := (HC5.out.below (below_drewn w5 1)).tw (bnext HBw5.out (below_drewn w5 1)) d3 d1
          have HC6 : Hid (Cy w.heap.size w6 lo v tq m6 L6 U T) := HCB.1
          have HB6 : Hid (Below w.heap.size w w6) := HCB.2
          clear d1 d2 d3 HCB
          refine ⟨⟨⟨w6, trivial⟩, rfl⟩, ?_⟩
          go_simp
          refine tree_done ?_
          clear ne
          go_wp2
          go_roundw
          case rel => exact ⟨k + 1, m6, L6, by go_num, by omega, by show _ = _; rw [HM6.out, HML.out]; exact put_take HL.out.tree.srt HXM.out, HW6, HC6, HB6⟩
          case measure => simp [intOf]; omega
        · refine wp_ok (exec_load35 (q := x) (.tmp 7) rfl rfl (rangeAt_blocks HS5.out (fun hk => (below_drewn w5 1).block _ hk))) ?_
          refine ⟨⟨⟨w5.drew, trivial⟩, rfl⟩, ?_⟩
          go_simp
          refine tree_one rfl rfl ?_
          have cT : World.cell? (w5.drew) ⟨lo, 1, none⟩ = some (ptr tq) := (HC5.out.below (below_drewn w5 1)).blk.cell 1 _ rfl
          go_simp
          refine ⟨⟨⟨w5.drew, trivial⟩, rfl⟩, ?_⟩
          clear cT
          go_simp
          refine tree_one rfl rfl ?_
          go_simp
          refine (HSet.out _ (below_drewn w5 1)).mono ?_
          rintro r w6 ⟨rfl, m6, L6, d1, d2, d3, _⟩
          have HT6 : Hid (Tw tq mo _ w6 m6) := d3
          have HP6 : Hid (PTr w6 tq m6 L6) := d1
          have HM6 : Hid (L6.map IT.m = setM (L.map IT.m) x.m true) := d2
          have HW6 : Hid (Was w6 (.slice (some ⟨bx, ox, none⟩) X.length cx) X) := (HWd.out.below (bnext HB5.out (below_drewn w5 1))).tw d3 (HC5.out.below (below_drewn w5 1)).tree
          have HCB := (HC5.out.below (below_drewn w5 1)).tw (bnext HBw5.out (below_drewn w5 1)) d3 d1
          have HC6 : Hid (Cy w.heap.size w6 lo v tq m6 L6 U T) := HCB.1
          have HB6 : Hid (Below w.heap.size w w6) := HCB.2
          clear d1 d2 d3 HCB
          refine ⟨⟨⟨w6, trivial⟩, rfl⟩, ?_⟩
          go_simp
          refine tree_done ?_
          clear ne
          go_wp2
          go_roundw
          case rel => exact ⟨k + 1, m6, L6, by go_num, by omega, by show _ = _; rw [HM6.out, HML.out]; exact put_take HL.out.tree.srt HXM.out, HW6, HC6, HB6⟩
          case measure => simp [intOf]; omega
      have hkI : ¬ (k : Int) < (X.length : Int) := by omega
      have HMe : Hid (L.map IT.m = LA.map IT.m) := by
        have := HML.out
        rwa [List.take_of_length_le (by have := map_len HMx.out; omega)] at this
      go_wp2
      go_ret
      exact ⟨lo, tq, v, mo, L, T, rfl, HCd.out.log HL.out HMe.out, key_ob HCd.out.key, HMe.out, HCd.out.nl, HCd.out.nt, HCd.out.nm, HCd.out.nv, HBd.out⟩
end Go.Proofs.Ythnjbjlhfohpfaa
