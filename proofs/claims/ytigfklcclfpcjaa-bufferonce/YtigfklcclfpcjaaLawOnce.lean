/-
  What is held comes out once, in order: the walk of BufferOnce.
-/
import Derived.Test.YtigfklcclfpcjaaOnceM
namespace Go.Proofs.Ytigfklcclfpcjaa
set_option linter.unusedVariables false
set_option linter.unusedSimpArgs false
set_option synthInstance.maxSize 20000
set_option maxHeartbeats 400000
set_option maxRecDepth 20000
open Go.RowKit Go.Maps

theorem findM_less (M : List Ent) (a i : Int) : findM (lessM M a i) a i = none := List.find?_eq_none.2 (fun f hf => by
  have := (List.mem_filter.1 hf).2
  simpa using this)

theorem RdI.len {w : World} {v : Value} {l : List Int} (h : RdI w v l) : ∃ a cap, v = .slice a l.length cap := ⟨h.2.choose, h.2.choose_spec.choose, h.2.choose_spec.choose_spec.1⟩
theorem RdI.at {w w' : World} {a : Option Addr} {n cap : Nat} {l : List Int} (h : RdI w (.slice a n cap) l) (hb : Below w.heap.size w w') {k : Nat} {t : Int} (hk : l[k]? = some t) : ∃ b off, a = some ⟨b, off, none⟩ ∧ w'.cell? ⟨b, off + k, none⟩ = some (.int .i64 t) := by
  obtain ⟨_, a', cap', e, h1, h2, h3⟩ := h
  have hkl := (List.getElem?_eq_some_iff.1 hk).1
  obtain ⟨b, off, ha, hc⟩ := h3 (by omega)
  simp only [Value.slice.injEq] at e
  refine ⟨b, off, e.1.trans ha, ?_⟩
  have := hc k t hk
  rw [World.cell?_of_block (hb.block b (World.block_lt_of_cell? w _ this))]
  exact this

theorem once_walk (v : Value) (l : List (Ent × Value)) (tv : Value) (tl : List Int) (w : World) (hrd : RowE w v l) (hE : Ents w (fun _ => 0) l) (ht : RdI w tv tl) :
    Calls Try.prog 4 #[v, tv] w fun e w' => e = .returned (.bool true) ∧ Below w.heap.size w w' := by
  obtain ⟨a, cap, rfl⟩ := hrd.len
  have hcap : l.length ≤ cap ∧ cap ≤ 9223372036854775807 := hrd.cap.2
  obtain ⟨ta, tcap, rfl⟩ := ht.len
  have htl : tl.length ≤ 9223372036854775807 := by
    obtain ⟨_, a', cap', e, h1, h2, _⟩ := ht
    unfold maxLen at h2
    omega
  have HAl : Hid (∀ w', Calls Try.prog 8 #[] w' fun r w2 => r = .returned (.bool true) ∧ Below w'.heap.size w' w2) := fun w' => alive_any w'
  by_cases c3 : 16 < l.length
  · clear hrd hE ht
    go_enter Try.func4, Try.ntmps4
    go_wp2_with (go_at_call 8; go_must (refine (HAl.out w).mono ?_; rintro r w2 ⟨rfl, hb2⟩))
    go_ret
    exact ⟨rfl, hb2⟩
  by_cases c4 : 40 < tl.length
  · clear hrd hE ht
    go_enter Try.func4, Try.ntmps4
    go_wp2_with (go_at_call 8; go_must (refine (HAl.out w).mono ?_; rintro r w2 ⟨rfl, hb2⟩))
    go_ret
    exact ⟨rfl, hb2⟩
  have HN1 : Hid (Calls Try.prog 9 #[.int .i64 16] w fun r w' => r = .returned (.tuple #[ptr w.heap.size, .int .i64 0]) ∧ BufIs w' (newTo (fun _ => 0) w 5) 5 w.heap.size 16 [] ∧ Below w.heap.size w w') := bnew_ok w (fun _ => 0) 5 (by omega) 16 (by omega)
  have HN2 : Hid (∀ (w1 : World) (o1 : Nat → Nat), Calls Try.prog 9 #[.int .i64 16] w1 fun r w' => r = .returned (.tuple #[ptr w1.heap.size, .int .i64 0]) ∧ BufIs w' (newTo o1 w1 6) 6 w1.heap.size 16 [] ∧ Below w1.heap.size w1 w') := fun w1 o1 => bnew_ok w1 o1 6 (by omega) 16 (by omega)
  have HV : Hid (RowE w (.slice a l.length cap) l) := hrd
  have HE : Hid (Ents w (fun _ => 0) l) := hE
  have HT : Hid (RdI w (.slice ta tl.length tcap) tl) := ht
  clear hrd hE ht
  have tA : Hid True := trivial
  go_enter Try.func4, Try.ntmps4
  go_wp2_with (first
    | (replace tA := tA; go_at_call 9; go_must (refine HN1.out.mono ?_; rintro r w1 ⟨rfl, hB1, hb1⟩; have HB1 : Hid (BufIs w1 (newTo (fun _ => 0) w 5) 5 w.heap.size 16 []) := hB1; have HW1 : Hid (Below w.heap.size w w1) := hb1; clear hB1 hb1 tA))
    | (go_at_call 9; go_must (refine (HN2.out w1 (newTo (fun _ => 0) w 5)).mono ?_; rintro r w2 ⟨rfl, hB2, hb2⟩; have HS : Hid (∃ o' M hs, OnP w w2 w.heap.size w1.heap.size (.slice none 0 0) o' M [] hs ∧ hs.length = 0) := ⟨_, [], [], ⟨HB1.out.mv (Mv.of_below (I := []) 6 hb2) (by simp) (by simp), hB2, out_nil _ _ _ _, (Mv.of_below 5 HW1.out).trans (Mv.of_below 6 hb2), List.Perm.refl _⟩, rfl⟩; clear hB2 hb2)))
  generalize w1.heap.size = bb at *
  clear HN1 HN2 HB1 HW1
  go_loopw [9, 10] (fun v9 v10 wr => ∃ (a9 : Option Addr) (n9 c9 k : Nat), v9 = .slice a9 n9 c9 ∧ v10 = .int .i64 k ∧ k ≤ l.length ∧ n9 ≤ k ∧ Hid (∃ o' M hs, OnP w wr w.heap.size bb (.slice a9 n9 c9) o' M [] hs ∧ hs.length = n9)) (fun _ v10 _ => l.length - (intOf v10).toNat)
  case atStart => exact ⟨_, _, _, 0, rfl, rfl, by omega, by omega, HS⟩
  case round =>
    obtain ⟨a9, n9, c9, k, rfl, rfl, hk, hn9, HI⟩ := hrel
    obtain ⟨o', M, hs, p, hln⟩ := HI.out
    by_cases hkl : k < l.length
    · obtain ⟨q, hq⟩ : ∃ q, l[k]? = some q := ⟨_, List.getElem?_eq_getElem hkl⟩
      have hRw : RowE wr (.slice a l.length cap) l := HV.out.mv p.mv (fun k hk => by simp)
      obtain ⟨g, off, ea, hc⟩ := hRw.at hq
      subst ea
      have hEq := (HE.out q (List.mem_of_getElem? hq))
      have hKp := hEq.2.mv p.mv (by simp)
      obtain ⟨ax, cx, hxx⟩ := hEq.2.1.len
      by_cases hlong : 1200 < q.1.b.length
      · have HBw' : Hid (Below w.heap.size w wr) := p.below
        obtain ⟨e, x⟩ := q
        dsimp only at *
        subst hxx
        obtain ⟨ew, ei, ep, et, eu, en, eb, eg⟩ := e
        unfold ec at hc
        dsimp only at *
        have c6 := hc 6 _ rfl
        have hbl : eb.length ≤ 9223372036854775807 := by have := hEq.2.1.cap; omega
        clear hc hRw hEq hKp HI p hq HS
        go_wp2_with (go_at_call 8; go_must (refine (HAl.out wr).mono ?_; rintro r w2 ⟨rfl, hb2⟩))
        go_ret
        exact ⟨rfl, bnext HBw'.out hb2⟩
      · have HH := hold_any (e := q.1) (x := q.2) p.bufA (by omega) hEq.1 hKp
        have hz := fun h => hold_zero (most := 16) (M := M) (e := q.1) h
        have hnz := fun h => hold_nz (most := 16) (M := M) (e := q.1) h
        generalize (holdM 16 M q.1).1 = K at *
        generalize (holdM 16 M q.1).2 = M' at *
        by_cases hK0 : K = 0
        · subst hK0
          obtain ⟨_, _, _, hM'⟩ := hz rfl
          subst hM'
          have HPut := fun (w3 w5 : World) (o3 : Nat → Nat) (v5 : Value) h3 m ob h5 h6 h7 => p.put (w3 := w3) (w5 := w5) (o3 := o3) (v5 := v5) hEq.1 hKp h3 m ob h5 h6 h7
          have HRow : Hid (∀ (w3 : World) (o3 : Nat → Nat), BufIs w3 o3 5 w.heap.size 16 (insM q.1 M) → Mv [5] wr o' w3 o3 → w3.ownsRow 0 38 8 (.slice a9 n9 c9) hs.length (flatE hs)) := fun w3 o3 h3 m => (p.holdA h3 m).2.1.row
          have HRl : Hid (∀ (w3 : World) (o3 : Nat → Nat), Mv [5] wr o' w3 o3 → RowE w3 (.slice (some ⟨g, off, none⟩) l.length cap) l) := fun w3 o3 m => HV.out.mv (p.mv.trans (m.widen (by simp))) (fun k hk => by simp)
          have R1 := fun (w' : World) => rowE_one w' q.1 q.2
          have O1 : ∀ u ∈ flatE [(q.1, q.2)], u.oneCell' = true := (ents_one hEq.1 hEq.2).one
          have HQ : Hid (l[k]? = some q) := hq
          have HLn : Hid (hs.length = n9) := hln
          obtain ⟨e, x⟩ := q
          dsimp only at *
          subst hxx
          obtain ⟨ew, ei, ep, et, eu, en, eb, eg⟩ := e
          unfold ec at hc
          unfold ev at HH
          dsimp only at *
          have HHo : Hid (Calls _ _ _ _ _) := HH
          have HPt : Hid (_) := HPut
          have HR1 : Hid (_) := R1
          have HO1 : Hid (_) := O1
          have d0 := hc 0 _ rfl; have d1 := hc 1 _ rfl; have d2 := hc 2 _ rfl; have d3 := hc 3 _ rfl; have d4 := hc 4 _ rfl; have d5 := hc 5 _ rfl; have d6 := hc 6 _ rfl; have d7 := hc 7 _ rfl
          simp only [Nat.add_zero] at d0
          clear hc hRw hEq hKp HI p hq HS HH hz hnz HPut R1 O1 hln
          go_wp2_with (first
            | (go_at_call 10; go_must (refine HHo.out.mono ?_; rintro r w3 ⟨rfl, o3, hB3, hm3⟩; have HB3 : Hid (BufIs w3 o3 5 w.heap.size 16 _) := hB3; have HM3 : Hid (Mv [5] wr o' w3 o3) := hm3; obtain ⟨g3, off3, ea3, hcc⟩ := (HRl.out w3 o3 hm3).at HQ.out; cases ea3; unfold ec at hcc; dsimp only at hcc; have b0 := hcc 0 _ rfl; have b1 := hcc 1 _ rfl; have b2 := hcc 2 _ rfl; have b3 := hcc 3 _ rfl; have b4 := hcc 4 _ rfl; have b5 := hcc 5 _ rfl; have b6 := hcc 6 _ rfl; have b7 := hcc 7 _ rfl; simp only [Nat.add_zero] at b0; have HRow3 : Hid (w3.ownsRow 0 38 8 (.slice a9 n9 c9) hs.length (flatE hs)) := HRow.out w3 o3 hB3 hm3; clear hB3 hm3 hcc))
            | (at_builtin; go_must (refine wpList_append_ents rfl (.tmp 66) (.tmp 71) rfl _ hs rfl (HRow3.out.alloc _) _ _ rfl (HR1.out w3) HO1.out (by have := HLn.out; simp; omega) ?_; intro v5 w5 hr5 hg5 hw5; obtain ⟨o5, p5⟩ := HPt.out w3 w5 o3 v5 HB3.out HM3.out _ hg5 hr5 hw5; obtain ⟨a5, c5, hv5, _⟩ := slice_of_own hr5; have HN5 : Hid ((hs ++ [((⟨ew, ei, ep, et, eu, en, eb, eg⟩ : Ent), (.slice ax eb.length cx : Value))]).length = n9 + 1) := (show _ = _ from by have := HLn.out; simp [this]); rw [HN5.out] at hv5; subst hv5; have HP5 : Hid (∃ o' M hs, OnP w w5 w.heap.size bb (.slice a5 (n9 + 1) c5) o' M [] hs ∧ hs.length = n9 + 1) := ⟨o5, _, _, p5, HN5.out⟩; clear p5 hr5 hg5 hw5)))
          go_roundw
          case rel => exact ⟨_, _, _, k + 1, rfl, by go_num, by omega, by omega, HP5⟩
          case measure => simp [intOf]; omega
        · have hM' := hnz hK0
          subst hM'
          have hKn : (K == 0) = false := by simpa using hK0
          have HNx : Hid (∀ (w3 : World) (o3 : Nat → Nat), BufIs w3 o3 5 w.heap.size 16 M' → Mv [5] wr o' w3 o3 → ∃ o' M hs, OnP w w3 w.heap.size bb (.slice a9 n9 c9) o' M [] hs ∧ hs.length = n9) := fun w3 o3 h3 m => ⟨o3, _, hs, ⟨h3, (p.holdA h3 m).1, (p.holdA h3 m).2.1, (p.holdA h3 m).2.2, p.perm⟩, hln⟩
          obtain ⟨e, x⟩ := q
          dsimp only at *
          subst hxx
          obtain ⟨ew, ei, ep, et, eu, en, eb, eg⟩ := e
          unfold ec at hc
          unfold ev at HH
          dsimp only at *
          have HHo : Hid (Calls _ _ _ _ _) := HH
          have d0 := hc 0 _ rfl; have d1 := hc 1 _ rfl; have d2 := hc 2 _ rfl; have d3 := hc 3 _ rfl; have d4 := hc 4 _ rfl; have d5 := hc 5 _ rfl; have d6 := hc 6 _ rfl; have d7 := hc 7 _ rfl
          simp only [Nat.add_zero] at d0
          clear hc hRw hEq hKp HI p hq HS HH hz hnz hln hK0
          go_wp2_with (go_at_call 10; go_must (refine HHo.out.mono ?_; rintro r w3 ⟨rfl, o3, hB3, hm3⟩; have HP3 : Hid (∃ o' M hs, OnP w w3 w.heap.size bb (.slice a9 n9 c9) o' M [] hs ∧ hs.length = n9) := HNx.out w3 o3 hB3 hm3; clear hB3 hm3))
          go_roundw
          case rel => exact ⟨_, _, _, k + 1, rfl, by go_num, by omega, by omega, HP3⟩
          case measure => simp [intOf]; omega
    · obtain rfl : k = l.length := by omega
      have HP0 : Hid (∃ o' M hs, OnP w wr w.heap.size bb (.slice a9 n9 c9) o' M [] hs ∧ hs.length = n9) := ⟨o', M, hs, p, hln⟩
      have hc9 : n9 ≤ c9 ∧ c9 ≤ 9223372036854775807 := p.out.rowE.cap.2
      clear HI p HS hln HV HE
      go_wp2
      go_loopw [11] (fun v11 wz => ∃ k : Nat, v11 = .int .i64 k ∧ k ≤ tl.length ∧ Hid (∃ o' M hs, OnP w wz w.heap.size bb (.slice a9 n9 c9) o' M [] hs ∧ hs.length = n9)) (fun v11 _ => tl.length - (intOf v11).toNat)
      case atStart => exact ⟨0, rfl, by omega, HP0⟩
      case round =>
        obtain ⟨k, rfl, hk2, HI⟩ := hrel
        obtain ⟨o2, M2, hs2, p, hln⟩ := HI.out
        by_cases hgo : k < tl.length ∧ 0 < n9
        · obtain ⟨hkt, hpos⟩ := hgo
          obtain ⟨t, ht⟩ : ∃ t, tl[k]? = some t := ⟨_, List.getElem?_eq_getElem hkt⟩
          obtain ⟨tb, toff, ea, tc⟩ := HT.out.at p.below ht
          subst ea
          have hI64 : I64 t := HT.out.1 t (List.mem_of_getElem? ht)
          unfold I64 at hI64
          obtain ⟨kk, hkk, hkl, hr1, hr2⟩ := rem_idx t n9 hpos (by omega)
          obtain ⟨q0, hq0⟩ : ∃ q, hs2[0]? = some q := ⟨_, List.getElem?_eq_getElem (by omega)⟩
          obtain ⟨qk, hqk⟩ : ∃ q, hs2[kk]? = some q := ⟨_, List.getElem?_eq_getElem (by omega)⟩
          obtain ⟨g, hg⟩ : ∃ g, a9 = some ⟨g, 0, none⟩ := by
            rcases p.out.row.2 with ⟨e, h0⟩ | ⟨g, cap, cur, e, _⟩
            · omega
            · simp only [Value.slice.injEq] at e
              exact ⟨g, e.1⟩
          subst hg
          have hrow := p.out.row
          rw [hln] at hrow
          have e0 := (p.out.ents q0 (List.mem_of_getElem? hq0)).2.1.len
          have ek := (p.out.ents qk (List.mem_of_getElem? hqk)).2.1.len
          obtain ⟨ax, cx, hxx⟩ := e0
          obtain ⟨ay, cy, hyy⟩ := ek
          obtain ⟨w2, hw2⟩ : ∃ w2, w2 = wr.alloc (.cells #[.int .i64 q0.1.w, .int .i64 q0.1.i, .int .u64 q0.1.p, .int .i64 q0.1.t, .int .i64 q0.1.u, .int .i64 q0.1.n, q0.2, .int .u64 q0.1.g] 38) := ⟨_, rfl⟩
          have hb2 : Below wr.heap.size wr w2 := by rw [hw2]; exact balloc (Below.refl _ _) _
          have X2 : Blk w2 wr.heap.size 38 (ec q0.1 q0.2) := by rw [hw2]; exact blk_new wr _ 38
          have p2 := p.past hb2
          have hrow2 := p2.out.row
          rw [hln] at hrow2
          obtain ⟨w3, hw3⟩ : ∃ w3, w3 = put8 w2 g 0 qk.1 qk.2 := ⟨_, rfl⟩
          have R3 := row_put8 (i := 0) hrow2 hln.symm (by omega) qk.1 qk.2
          rw [Nat.zero_mul, ← hw3] at R3
          have hgs : g < wr.heap.size := (p.out.row.lt g rfl).2
          have X3 : Blk w3 wr.heap.size 38 (ec q0.1 q0.2) := X2.past' R3.2 (fun e => by have := Option.some.inj e; omega)
          have hqk3 : (hs2.set 0 (qk.1, qk.2))[kk]? = some qk := by
            rw [List.getElem?_set]
            by_cases c : 0 = kk
            · subst c
              rw [if_pos rfl, if_pos (by omega)]
            · rw [if_neg c]; exact hqk
          have SW := p.swap hb2 hq0 hqk
          rw [← hw3] at SW
          obtain ⟨w4, hw4⟩ : ∃ w4, w4 = put8 w3 g (kk * 8) q0.1 q0.2 := ⟨_, rfl⟩
          rw [← hw4] at SW
          have HP4 : Hid (∃ o' M hs, OnP w w4 w.heap.size bb (.slice (some ⟨g, 0, none⟩) n9 c9) o' M [] hs ∧ hs.length = n9) := (show ∃ o' M hs, OnP w w4 w.heap.size bb (.slice (some ⟨g, 0, none⟩) n9 c9) o' M [] hs ∧ hs.length = n9 from by
            obtain ⟨o5, hs', p5⟩ := SW
            exact ⟨o5, _, hs', p5, (p5.out.rowE.cap.1).symm⟩)
          have C0 : ∀ j u, (ec q0.1 q0.2)[j]? = some u → wr.cell? ⟨g, 0 * 8 + j, none⟩ = some u := fun j u hu => row_cell hrow hq0 hln.symm j u hu
          have CK : ∀ j u, (ec qk.1 qk.2)[j]? = some u → w2.cell? ⟨g, kk * 8 + j, none⟩ = some u := fun j u hu => row_cell hrow2 hqk hln.symm j u hu
          have C2 : ∀ j u, (ec q0.1 q0.2)[j]? = some u → w2.cell? ⟨g, 0 * 8 + j, none⟩ = some u := fun j u hu => row_cell hrow2 hq0 hln.symm j u hu
          have C3 : ∀ j u, (ec qk.1 qk.2)[j]? = some u → w3.cell? ⟨g, kk * 8 + j, none⟩ = some u := fun j u hu => row_cell R3.1 hqk3 (by rw [List.length_set]; exact hln.symm) j u hu
          have F2 := fun j => hrow2.frozenAt j
          have F3 := fun j => R3.1.frozenAt j
          obtain ⟨e, x⟩ := q0
          obtain ⟨f, y⟩ := qk
          dsimp only at *
          subst hxx hyy
          obtain ⟨ew, ei, ep, et, eu, en, eb, eg⟩ := e
          obtain ⟨fw, fi, fp, ft, fu, fn, fb, fg⟩ := f
          unfold put8 at hw3 hw4
          unfold ec at C0 CK C2 C3 X3
          simp only [Nat.zero_mul, Nat.zero_add] at C0 C2 hw3
          dsimp only at *
          have a0' := C0 0 _ rfl; have a1' := C0 1 _ rfl; have a2' := C0 2 _ rfl; have a3' := C0 3 _ rfl; have a4' := C0 4 _ rfl; have a5' := C0 5 _ rfl; have a6' := C0 6 _ rfl; have a7' := C0 7 _ rfl
          have b0' := CK 0 _ rfl; have b1' := CK 1 _ rfl; have b2' := CK 2 _ rfl; have b3' := CK 3 _ rfl; have b4' := CK 4 _ rfl; have b5' := CK 5 _ rfl; have b6' := CK 6 _ rfl; have b7' := CK 7 _ rfl
          have c0' := C2 0 _ rfl; have c1' := C2 1 _ rfl; have c2' := C2 2 _ rfl; have c3' := C2 3 _ rfl; have c4' := C2 4 _ rfl; have c5' := C2 5 _ rfl; have c6' := C2 6 _ rfl; have c7' := C2 7 _ rfl
          have d0' := C3 0 _ rfl; have d1' := C3 1 _ rfl; have d2' := C3 2 _ rfl; have d3' := C3 3 _ rfl; have d4' := C3 4 _ rfl; have d5' := C3 5 _ rfl; have d6' := C3 6 _ rfl; have d7' := C3 7 _ rfl
          simp only [Nat.add_zero] at b0' d0'
          have f0 := F2 0; have f1 := F2 1; have f2 := F2 2; have f3 := F2 3; have f4 := F2 4; have f5 := F2 5; have f6 := F2 6; have f7 := F2 7
          have k0 := F3 (kk * 8); have k1 := F3 (kk * 8 + 1); have k2 := F3 (kk * 8 + 2); have k3 := F3 (kk * 8 + 3); have k4 := F3 (kk * 8 + 4); have k5 := F3 (kk * 8 + 5); have k6 := F3 (kk * 8 + 6); have k7 := F3 (kk * 8 + 7)
          have z0 := X3.cell 0 _ rfl; have z1 := X3.cell 1 _ rfl; have z2 := X3.cell 2 _ rfl; have z3 := X3.cell 3 _ rfl; have z4 := X3.cell 4 _ rfl; have z5 := X3.cell 5 _ rfl; have z6 := X3.cell 6 _ rfl; have z7 := X3.cell 7 _ rfl
          have HW2 : Hid (_ = _) := hw2
          have HW3 : Hid (_ = _) := hw3
          have HW4 : Hid (_ = _) := hw4
          clear HI p hln hrow X2 p2 hrow2 R3 X3 SW C0 CK C2 C3 F2 F3 hw2 hw3 hw4 hq0 hqk hqk3 ht hb2 HP0
          go_upto_region 20 with fail
          rw [← HW2.out]
          clear HW2 a0' a1' a2' a3' a4' a5' a6' a7'
          generalize wr.heap.size = sz at *
          go_upto_region 21 with fail
          rw [← HW3.out]
          clear HW3 b0' b1' b2' b3' b4' b5' b6' b7' c0' c1' c2' c3' c4' c5' c6' c7' f0 f1 f2 f3 f4 f5 f6 f7
          go_upto_region 17 with fail
          rw [← HW4.out]
          clear HW4 d0' d1' d2' d3' d4' d5' d6' d7' k0 k1 k2 k3 k4 k5 k6 k7 z0 z1 z2 z3 z4 z5 z6 z7
          go_wp2
          go_roundw
          case rel => exact ⟨k + 1, by go_num, by omega, HP4⟩
          case measure => simp [intOf]; omega
        · have HP1 : Hid (∃ o' M Mb hs, OnP w wr w.heap.size bb (.slice a9 n9 c9) o' M Mb hs ∧ hs.length = n9 ∧ Mb.Perm ((hs.take 0).map (·.1))) := ⟨o2, M2, [], hs2, p, hln, by simp⟩
          clear HI p hln HT HP0
          by_cases hkt : k < tl.length
          case' pos =>
            have h0 : ¬ 0 < n9 := fun h => hgo ⟨hkt, h⟩
            clear hgo
            go_wp2
          case' neg =>
            clear hgo
            go_wp2
          all_goals
            go_loopw [14] (fun v14 wz => ∃ k : Nat, v14 = .int .i64 k ∧ k ≤ n9 ∧ Hid (∃ o' M Mb hs, OnP w wz w.heap.size bb (.slice a9 n9 c9) o' M Mb hs ∧ hs.length = n9 ∧ Mb.Perm ((hs.take k).map (·.1)))) (fun v14 _ => n9 - (intOf v14).toNat)
            case atStart => exact ⟨0, rfl, by omega, HP1⟩
            case round =>
              obtain ⟨k3, rfl, hk3, HI⟩ := hrel
              obtain ⟨o3, M3, Mb, hs3, p, hln, hpm⟩ := HI.out
              by_cases hkl3 : k3 < n9
              · obtain ⟨q, hq⟩ : ∃ q, hs3[k3]? = some q := ⟨_, List.getElem?_eq_getElem (by omega)⟩
                obtain ⟨hho, hpn⟩ := p.next hq hpm
                have hEq := p.out.ents q (List.mem_of_getElem? hq)
                have HH := hold_any (e := q.1) (x := q.2) p.bufB (by omega) hEq.1 hEq.2
                rw [hho] at HH
                obtain ⟨g, off, ea, hc⟩ := p.out.rowE.at hq
                subst ea
                have HNx : Hid (∀ (w3 : World) (o4 : Nat → Nat), BufIs w3 o4 6 bb 16 (insM q.1 Mb) → Mv [6] wr o3 w3 o4 → ∃ o' M Mb hs, OnP w w3 w.heap.size bb (.slice (some ⟨g, off, none⟩) n9 c9) o' M Mb hs ∧ hs.length = n9 ∧ Mb.Perm ((hs.take (k3 + 1)).map (·.1))) := fun w3 o4 h3 m => ⟨o4, M3, _, hs3, ⟨p.bufA.mv m (by simp) (by simp), h3, p.out.mv m (by simp) (by simp), p.mv.trans (m.widen (by simp)), p.perm⟩, hln, hpn⟩
                obtain ⟨ax, cx, hxx⟩ := hEq.2.1.len
                obtain ⟨e, x⟩ := q
                dsimp only at *
                subst hxx
                obtain ⟨ew, ei, ep, et, eu, en, eb, eg⟩ := e
                unfold ec at hc
                unfold ev at HH
                dsimp only at *
                have HHo : Hid (Calls _ _ _ _ _) := HH
                have d0 := hc 0 _ rfl; have d1 := hc 1 _ rfl; have d2 := hc 2 _ rfl; have d3 := hc 3 _ rfl; have d4 := hc 4 _ rfl; have d5 := hc 5 _ rfl; have d6 := hc 6 _ rfl; have d7 := hc 7 _ rfl
                simp only [Nat.add_zero] at d0
                clear hc hEq HI p hq HP1 HH hln hpm hho hpn
                go_wp2_with (go_at_call 10; go_must (refine HHo.out.mono ?_; rintro r w3 ⟨rfl, o4, hB3, hm3⟩; have HP3 : Hid (_) := HNx.out w3 o4 hB3 hm3; clear hB3 hm3))
                go_roundw
                case rel => exact ⟨k3 + 1, by go_num, by omega, HP3⟩
                case measure => simp [intOf]; omega
              · obtain rfl : k3 = n9 := by omega
                have hMM : Mb = M3 := by
                  rw [← hln, List.take_length] at hpm
                  exact srt_eq p.bufB.srt p.bufA.srt (hpm.trans p.perm)
                subst hMM
                have hMl : Mb.length = k3 := by rw [← p.len]; exact hln
                have HA : Hid (BufIs wr o3 5 w.heap.size 16 Mb) := p.bufA
                have HB : Hid (BufIs wr o3 6 bb 16 Mb) := p.bufB
                have HMv : Hid (Mv [5, 6, 7] w (fun _ => 0) wr o3) := p.mv
                have HML : Hid (Mb.length = k3) := hMl
                have HSame : Hid (∀ (w3 w4 : World) (o3 : Nat → Nat) (v2 v4 : Value) (rs rs4 : List (Ent × Value)) (B B4 : Nat), OutAt w3 o3 0 B v2 rs → Below w3.heap.size w3 w4 → OutAt w4 (newTo o3 w3 0) 0 B4 v4 rs4 → rs.map (·.1) = Mb → rs4.map (·.1) = Mb → Calls Try.prog 15 #[v2, v4] w4 fun r w' => r = .returned (.bool true) ∧ Below w4.heap.size w4 w') := fun w3 w4 o3 v2 v4 rs rs4 B B4 h2 hb h4 e2 e4 => by
                  have h2' := h2.mv (Mv.of_below (I := []) 0 hb) (by simp) (by simp)
                  exact refall_eq h2'.rowE h2'.ents h4.rowE h4.ents (e2.trans e4.symm)
                have AA : Calls Try.prog 23 #[ptr w.heap.size] wr fun r w' => ∃ v', r = .returned v' ∧ ∃ rs, rs.map (·.1) = Mb ∧ OutAt w' (newTo o3 wr 0) 0 wr.heap.size v' rs ∧ Below wr.heap.size wr w' := ball_any HA.out
                have HAA : Hid (Calls _ _ _ _ _) := AA
                have HBB : Hid (∀ w2 o2, BufIs w2 o2 6 bb 16 Mb → Calls Try.prog 23 #[ptr bb] w2 fun r w' => ∃ v', r = .returned v' ∧ ∃ rs, rs.map (·.1) = Mb ∧ OutAt w' (newTo o2 w2 0) 0 w2.heap.size v' rs ∧ Below w2.heap.size w2 w') := fun w2 o2 h => ball_any h
                have HLL : Hid (∀ w2 o2, BufIs w2 o2 5 w.heap.size 16 Mb → Calls Try.prog 22 #[ptr w.heap.size] w2 fun r w' => r = .returned (.int .i64 (k3 : Int)) ∧ w' = w2) := fun w2 o2 h => by
                  have := blen_any h
                  rw [HML.out] at this
                  exact this
                clear HI p hln hpm hMl AA HP1
                have tA : Hid True := trivial
                go_wp2_with (first
                  | (replace tA := tA; go_at_call 23; go_must (refine HAA.out.mono ?_; rintro r w2 ⟨v2, rfl, rs, hrs, hO2, hb2⟩; obtain ⟨a2, c2', hv2, _⟩ := slice_of_own hO2.row; subst hv2; have HO2 : Hid (OutAt w2 (newTo o3 wr 0) 0 wr.heap.size (.slice a2 rs.length c2') rs) := hO2; have HRS : Hid (rs.map (·.1) = Mb) := hrs; have HB2 : Hid (BufIs w2 (newTo o3 wr 0) 6 bb 16 Mb) := HB.out.below hb2; have HA2 : Hid (BufIs w2 (newTo o3 wr 0) 5 w.heap.size 16 Mb) := HA.out.below hb2; have HM2 : Hid (Mv [5, 6, 7] w (fun _ => 0) w2 (newTo o3 wr 0)) := HMv.out.trans (Mv.of_below 0 hb2); clear hO2 hb2 hrs tA))
                  | (go_at_call 23; go_must (refine (HBB.out w2 _ HB2.out).mono ?_; rintro r w4 ⟨v4, rfl, rs4, hrs4, hO4, hb4⟩; obtain ⟨a4, c4', hv4, _⟩ := slice_of_own hO4.row; subst hv4; have HO4 : Hid (OutAt w4 (newTo (newTo o3 wr 0) w2 0) 0 w2.heap.size (.slice a4 rs4.length c4') rs4) := hO4; have HRS4 : Hid (rs4.map (·.1) = Mb) := hrs4; have HB4 : Hid (Below w2.heap.size w2 w4) := hb4; clear hO4 hrs4 hb4))
                  | (go_at_call 15; go_must (refine (HSame.out w2 w4 _ _ _ rs rs4 _ _ HO2.out HB4.out HO4.out HRS.out HRS4.out).mono ?_; rintro r w5 ⟨rfl, hb5⟩; have HA5 : Hid (BufIs w5 (newTo (newTo (newTo o3 wr 0) w2 0) w4 0) 5 w.heap.size 16 Mb) := (HA2.out.below HB4.out).below hb5; have HM5 : Hid (Mv [5, 6, 7] w (fun _ => 0) w5 (newTo (newTo (newTo o3 wr 0) w2 0) w4 0)) := (HM2.out.trans (Mv.of_below 0 HB4.out)).trans (Mv.of_below 0 hb5); clear hb5))
                  | (go_at_call 22; go_must (refine (HLL.out w5 _ HA5.out).mono ?_; rintro r w6 ⟨rfl, hw6⟩; replace hw6 := hw6.symm; subst hw6)))
                have HS4 : Hid (∃ o' M, OnQ w w5 w.heap.size o' M ∧ M.length = k3) := ⟨_, Mb, ⟨HA5.out, HM5.out⟩, HML.out⟩
                clear HA5 HM5 HLL HAA HBB HSame HB2 HA2 HM2 HO2 HO4 HRS HRS4 HB4 HA HB HMv
                go_loopw [15] (fun v15 wz => ∃ k : Nat, v15 = .int .i64 k ∧ k ≤ 16 ∧ Hid (∃ o' M, OnQ w wz w.heap.size o' M ∧ M.length = k)) (fun v15 _ => (intOf v15).toNat)
                case atStart => exact ⟨_, rfl, by omega, HS4⟩
                case round =>
                  obtain ⟨k4, rfl, hk4, HI⟩ := hrel
                  obtain ⟨o4, M4, p, hml⟩ := HI.out
                  cases M4 with
                  | nil =>
                    have hk0 : k4 = 0 := by simpa using hml.symm
                    subst hk0
                    have HBw : Hid (Below w.heap.size w wr) := p.mv.below (Nat.le_refl _) (fun k hk => by simp)
                    clear HI p hml
                    go_wp2_with (go_at_call 8; go_must (refine (HAl.out wr).mono ?_; rintro r w7 ⟨rfl, hb7⟩))
                    go_ret
                    exact ⟨rfl, bnext HBw.out hb7⟩
                  | cons e M5 =>
                    have hfm : findM (e :: M5) e.w e.i = some e := findM_mem p.buf.srt (by simp)
                    have t1 : tkE (e :: M5) e.w e.i = e := by unfold tkE; rw [hfm]; rfl
                    have t2 : tkB (e :: M5) e.w e.i = true := by unfold tkB; rw [hfm]; rfl
                    have t3 : tkE (lessM (e :: M5) e.w e.i) e.w e.i = zeroE := by unfold tkE; rw [findM_less]; rfl
                    have t4 : tkB (lessM (e :: M5) e.w e.i) e.w e.i = false := by unfold tkB; rw [findM_less]; rfl
                    have t5 := lessM_none (findM_less (e :: M5) e.w e.i)
                    have t6 := lessM_length p.buf.srt (e := e) (by simp)
                    obtain ⟨heok, FI⟩ := bfirst_some p.buf
                    have TK := fun (w2 : World) (o2 : Nat → Nat) (h : BufIs w2 o2 5 w.heap.size 16 (e :: M5)) => (btake_any (a := e.w) (i := e.i) h (by omega)).2
                    rw [t1, t2] at TK
                    generalize hLM : lessM (e :: M5) e.w e.i = ML at *
                    have TK2 := fun (w2 : World) (o2 : Nat → Nat) (h : BufIs w2 o2 5 w.heap.size 16 ML) => (btake_any (a := e.w) (i := e.i) h (by omega)).2
                    rw [t3, t4, t5] at TK2
                    have hlm : ML.length + 1 = k4 := t6.trans hml
                    obtain ⟨k5, hk5⟩ : ∃ k5 : Nat, k5 = ML.length := ⟨_, rfl⟩
                    have BL := fun (w2 : World) (o2 : Nat → Nat) (h : BufIs w2 o2 5 w.heap.size 16 ML) => blen_any h
                    rw [← hk5] at BL hlm
                    have SM := fun (w2 : World) (y x : Value) (hy : Rd w2 y e.b) (hx : Rd w2 x e.b) => refsameE_any w2 e e y x hy hx
                    rw [(sameB_iff e e).2 rfl] at SM
                    have e45 : (k4 : Int) - 1 = (k5 : Int) := by omega
                    have HK5 : Hid (k5 = ML.length) := hk5
                    have HBuf : Hid (BufIs wr o4 5 w.heap.size 16 (e :: M5)) := p.buf
                    have HMv : Hid (Mv [5, 6, 7] w (fun _ => 0) wr o4) := p.mv
                    clear HI p hml hfm t1 t2 t3 t4 t5 t6 hLM hk5
                    obtain ⟨ew, ei, ep, et, eu, en, eb, eg⟩ := e
                    unfold ev zeroE at TK2
                    unfold ev at FI TK SM
                    dsimp only at *
                    have HFI : Hid (Calls _ _ _ _ _) := FI
                    have HTK : Hid (_) := TK
                    have HTK2 : Hid (_) := TK2
                    have HBL : Hid (_) := BL
                    have HSM : Hid (_) := SM
                    clear FI TK TK2 BL SM heok
                    have tA : Hid True := trivial
                    go_wp2_with (first
                      | (go_at_call 20; go_must (refine HFI.out.mono ?_; rintro r w2 ⟨y, rfl, hy, hb2⟩; obtain ⟨ay, cy, hyy⟩ := hy.1.len; subst hyy; have hb3 : Below wr.heap.size wr (w2.alloc (.cells #[.int .i64 ew, .int .i64 ei, .int .u64 ep, .int .i64 et, .int .i64 eu, .int .i64 en, .slice ay eb.length cy, .int .u64 eg] 38)) := balloc hb2 _; have HB3 : Hid (BufIs (w2.alloc (.cells #[.int .i64 ew, .int .i64 ei, .int .u64 ep, .int .i64 et, .int .i64 eu, .int .i64 en, .slice ay eb.length cy, .int .u64 eg] 38)) (newTo (newTo o4 wr 0) w2 0) 5 w.heap.size 16 _) := (HBuf.out.below hb2).below (balloc (Below.refl _ _) _); have HM3 : Hid (Mv [5, 6, 7] w (fun _ => 0) (w2.alloc (.cells #[.int .i64 ew, .int .i64 ei, .int .u64 ep, .int .i64 et, .int .i64 eu, .int .i64 en, .slice ay eb.length cy, .int .u64 eg] 38)) (newTo (newTo o4 wr 0) w2 0)) := (HMv.out.trans (Mv.of_below 0 hb2)).trans (Mv.of_below 0 (balloc (Below.refl _ _) _)); have HY3 : Hid (Kp0 (w2.alloc (.cells #[.int .i64 ew, .int .i64 ei, .int .u64 ep, .int .i64 et, .int .i64 eu, .int .i64 en, .slice ay eb.length cy, .int .u64 eg] 38)) (newTo (newTo o4 wr 0) w2 0) (.slice ay eb.length cy) eb) := hy.mv (Mv.of_below (I := []) 0 (balloc (Below.refl _ _) _)) (by simp); have HX3 : Hid (Blk (w2.alloc (.cells #[.int .i64 ew, .int .i64 ei, .int .u64 ep, .int .i64 et, .int .i64 eu, .int .i64 en, .slice ay eb.length cy, .int .u64 eg] 38)) w2.heap.size 38 [.int .i64 ew, .int .i64 ei, .int .u64 ep, .int .i64 et, .int .i64 eu, .int .i64 en, .slice ay eb.length cy, .int .u64 eg]) := blk_new w2 _ 38; have HN3 : Hid (newTo (newTo o4 wr 0) w2 0 w2.heap.size = 0) := newTo_new (Nat.le_refl _); clear hy hb2 hb3))
                      | (replace tA := tA; go_at_call 12; go_must (refine (HTK.out _ _ HB3.out).mono ?_; rintro r w4 ⟨x, rfl, o6, g1, g2, g3⟩; obtain ⟨ax, cx, hxx⟩ := g3.1.len; subst hxx; have X4 : Blk w4 w2.heap.size 38 [.int .i64 ew, .int .i64 ei, .int .u64 ep, .int .i64 et, .int .i64 eu, .int .i64 en, .slice ay eb.length cy, .int .u64 eg] := HX3.out.block (g2.block _ HX3.out.lt (by rw [HN3.out]; simp)); have HN4 : Hid (o6 w2.heap.size = 0) := (show o6 w2.heap.size = 0 from by rw [g2.ext _ HX3.out.lt]; exact HN3.out); have HB5 : Hid (BufIs (w4.alloc (.cells #[.int .i64 ew, .int .i64 ei, .int .u64 ep, .int .i64 et, .int .i64 eu, .int .i64 en, .slice ax eb.length cx, .int .u64 eg] 38)) (newTo o6 w4 0) 5 w.heap.size 16 ML) := g1.below (balloc (Below.refl _ _) _); have m5 : Mv [5] (w2.alloc (.cells #[.int .i64 ew, .int .i64 ei, .int .u64 ep, .int .i64 et, .int .i64 eu, .int .i64 en, .slice ay eb.length cy, .int .u64 eg] 38)) (newTo (newTo o4 wr 0) w2 0) (w4.alloc (.cells #[.int .i64 ew, .int .i64 ei, .int .u64 ep, .int .i64 et, .int .i64 eu, .int .i64 en, .slice ax eb.length cx, .int .u64 eg] 38)) (newTo o6 w4 0) := g2.trans (Mv.of_below 0 (balloc (Below.refl _ _) _)); have HM5 : Hid (Mv [5, 6, 7] w (fun _ => 0) (w4.alloc (.cells #[.int .i64 ew, .int .i64 ei, .int .u64 ep, .int .i64 et, .int .i64 eu, .int .i64 en, .slice ax eb.length cx, .int .u64 eg] 38)) (newTo o6 w4 0)) := HM3.out.trans (m5.widen (by simp)); have HY5 : Hid (Kp0 (w4.alloc (.cells #[.int .i64 ew, .int .i64 ei, .int .u64 ep, .int .i64 et, .int .i64 eu, .int .i64 en, .slice ax eb.length cx, .int .u64 eg] 38)) (newTo o6 w4 0) (.slice ay eb.length cy) eb) := HY3.out.mv m5 (by simp); have HX5 : Hid (Kp0 (w4.alloc (.cells #[.int .i64 ew, .int .i64 ei, .int .u64 ep, .int .i64 et, .int .i64 eu, .int .i64 en, .slice ax eb.length cx, .int .u64 eg] 38)) (newTo o6 w4 0) (.slice ax eb.length cx) eb) := g3.mv (Mv.of_below (I := []) 0 (balloc (Below.refl _ _) _)) (by simp); have HE5 : Hid (Blk (w4.alloc (.cells #[.int .i64 ew, .int .i64 ei, .int .u64 ep, .int .i64 et, .int .i64 eu, .int .i64 en, .slice ax eb.length cx, .int .u64 eg] 38)) w2.heap.size 38 [.int .i64 ew, .int .i64 ei, .int .u64 ep, .int .i64 et, .int .i64 eu, .int .i64 en, .slice ay eb.length cy, .int .u64 eg]) := X4.alloc _; have HF5 : Hid (Blk (w4.alloc (.cells #[.int .i64 ew, .int .i64 ei, .int .u64 ep, .int .i64 et, .int .i64 eu, .int .i64 en, .slice ax eb.length cx, .int .u64 eg] 38)) w4.heap.size 38 [.int .i64 ew, .int .i64 ei, .int .u64 ep, .int .i64 et, .int .i64 eu, .int .i64 en, .slice ax eb.length cx, .int .u64 eg]) := blk_new w4 _ 38; have HNe : Hid (newTo o6 w4 0 w2.heap.size = 0) := (show newTo o6 w4 0 w2.heap.size = 0 from by rw [newTo_old X4.lt]; exact HN4.out); have HNf : Hid (newTo o6 w4 0 w4.heap.size = 0) := newTo_new (Nat.le_refl _); have i0 := HE5.out.cell 0 _ rfl; have i1 := HE5.out.cell 1 _ rfl; have i2 := HE5.out.cell 2 _ rfl; have i3 := HE5.out.cell 3 _ rfl; have i4 := HE5.out.cell 4 _ rfl; have i5 := HE5.out.cell 5 _ rfl; have i6 := HE5.out.cell 6 _ rfl; have i7 := HE5.out.cell 7 _ rfl; clear X4 m5 g1 g2 g3 tA))
                      | (go_at_call 12; go_must (refine (HTK2.out _ _ HB5.out).mono ?_; rintro r w6 ⟨x', rfl, o7, g1, g2, g3⟩; obtain ⟨ax', cx', hxx⟩ := g3.1.len; subst hxx; have E6 : Blk w6 w2.heap.size 38 [.int .i64 ew, .int .i64 ei, .int .u64 ep, .int .i64 et, .int .i64 eu, .int .i64 en, .slice ay eb.length cy, .int .u64 eg] := HE5.out.block (g2.block _ HE5.out.lt (by rw [HNe.out]; simp)); have F6 : Blk w6 w4.heap.size 38 [.int .i64 ew, .int .i64 ei, .int .u64 ep, .int .i64 et, .int .i64 eu, .int .i64 en, .slice ax eb.length cx, .int .u64 eg] := HF5.out.block (g2.block _ HF5.out.lt (by rw [HNf.out]; simp)); have HY7 : Hid (Rd w6 (.slice ay eb.length cy) eb) := (HY5.out.mv g2 (by simp)).1; have HX7 : Hid (Rd w6 (.slice ax eb.length cx) eb) := (HX5.out.mv g2 (by simp)).1; have HB7 : Hid (BufIs w6 o7 5 w.heap.size 16 ML) := g1; have HM7 : Hid (Mv [5, 6, 7] w (fun _ => 0) w6 o7) := HM5.out.trans (g2.widen (by simp)); have E7 := E6.alloc (.cells #[.int .i64 0, .int .i64 0, .int .u64 0, .int .i64 0, .int .i64 0, .int .i64 0, .slice ax' 0 cx', .int .u64 0] 38); have F7 := F6.alloc (.cells #[.int .i64 0, .int .i64 0, .int .u64 0, .int .i64 0, .int .i64 0, .int .i64 0, .slice ax' 0 cx', .int .u64 0] 38); have m0 := E7.cell 0 _ rfl; have m1 := E7.cell 1 _ rfl; have m2 := E7.cell 2 _ rfl; have m3 := E7.cell 3 _ rfl; have m4 := E7.cell 4 _ rfl; have m5 := E7.cell 5 _ rfl; have m6 := E7.cell 6 _ rfl; have m7 := E7.cell 7 _ rfl; have n0 := F7.cell 0 _ rfl; have n1 := F7.cell 1 _ rfl; have n2 := F7.cell 2 _ rfl; have n3 := F7.cell 3 _ rfl; have n4 := F7.cell 4 _ rfl; have n5 := F7.cell 5 _ rfl; have n6 := F7.cell 6 _ rfl; have n7 := F7.cell 7 _ rfl; clear E6 F6 E7 F7 g1 g2 g3))
                      | (go_at_call 14; go_must (refine (HSM.out _ _ _ (HY7.out.below (balloc (Below.refl _ _) _)) (HX7.out.below (balloc (Below.refl _ _) _))).mono ?_; rintro r w8 ⟨rfl, hb8⟩; have HB8 : Hid (BufIs w8 _ 5 w.heap.size 16 ML) := HB7.out.below (bnext (balloc (Below.refl _ _) _) hb8); have HM8 : Hid (Mv [5, 6, 7] w (fun _ => 0) w8 _) := HM7.out.trans (Mv.of_below 0 (bnext (balloc (Below.refl _ _) _) hb8)); clear hb8))
                      | (go_at_call 22; go_must (refine (HBL.out w8 _ HB8.out).mono ?_; rintro r w9 ⟨rfl, hw9⟩; replace hw9 := hw9.symm; subst hw9)))
                    go_roundw
                    case rel => exact ⟨k5, by go_num, by omega, _, ML, ⟨HB8.out, HM8.out⟩, HK5.out.symm⟩
                    case measure => simp [intOf]; omega
end Go.Proofs.Ytigfklcclfpcjaa
