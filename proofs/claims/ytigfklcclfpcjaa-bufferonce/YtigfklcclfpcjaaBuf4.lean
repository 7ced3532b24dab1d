/-
  Drop and All by the plain list.
-/
import Derived.Test.YtigfklcclfpcjaaBuf3
namespace Go.Proofs.Ytigfklcclfpcjaa
set_option linter.unusedVariables false
set_option linter.unusedSimpArgs false
set_option synthInstance.maxSize 20000
set_option maxHeartbeats 400000
set_option maxRecDepth 20000
open Go.RowKit Go.Maps

theorem dropM_less {M : List Ent} (hs : Srt M) {e : Ent} (he : e ∈ M) {a n : Int} (hp : earlyB a n e = true) : dropM (lessM M e.w e.i) a n = dropM M a n ∧ (M.filter (earlyB a n)).length = ((lessM M e.w e.i).filter (earlyB a n)).length + 1 := by
  constructor
  · unfold dropM lessM
    rw [List.filter_filter]
    refine List.filter_congr (fun f hf => ?_)
    by_cases hat : atB e.w e.i f = true
    · have h1 := (atB_iff _ _ _).1 hat
      rw [srt_uniq hs hf he h1.1 h1.2, hp]
      rfl
    · simp [hat]
  · have h1 := ((lessM_perm hs he).filter (earlyB a n)).length_eq
    rw [List.filter_append, List.length_append] at h1
    rw [← h1]
    simp [hp]
theorem drop_count (M : List Ent) (a n : Int) : (M.filter (earlyB a n)).length + (dropM M a n).length = M.length := by
  have := (List.filter_append_perm (earlyB a n) M).length_eq
  rw [List.length_append] at this
  exact this

def DropW (w : World) (o : Nat → Nat) (j b : Nat) (most a n : Int) (M : List Ent) (k : Nat) (wr : World) : Prop :=
  ∃ o' M', BufIs wr o' j b most M' ∧ Mv [j] w o wr o' ∧ dropM M' a n = dropM M a n ∧ k + (M'.filter (earlyB a n)).length = (M.filter (earlyB a n)).length

theorem bdrop_any {w : World} {o : Nat → Nat} {j b : Nat} {most a n : Int} {M : List Ent} (h : BufIs w o j b most M) (hj0 : j ≠ 0) :
    Calls Try.prog 18 #[ptr b, .int .i64 a, .int .i64 n] w fun r w' => r = .returned (.int .i64 ((M.filter (earlyB a n)).length : Int)) ∧ ∃ o', BufIs w' o' j b most (dropM M a n) ∧ Mv [j] w o w' o' := by
  have hM := h.len
  have hcnt := drop_count M a n
  have HI0 : Hid (DropW w o j b most a n M 0 w) := ⟨o, M, h, Mv.refl _ _ _, rfl, by omega⟩
  have HCn : Hid ((M.filter (earlyB a n)).length ≤ 16) := (show _ ≤ _ from by omega)
  clear h hcnt
  go_enter Try.func18, Try.ntmps18
  go_wp2
  go_loopw [8] (fun i wr => ∃ k : Nat, i = .int .i64 k ∧ k ≤ 16 ∧ Hid (DropW w o j b most a n M k wr)) (fun i _ => 17 - (intOf i).toNat)
  case atStart => exact ⟨0, rfl, by omega, HI0⟩
  case round =>
    obtain ⟨k, rfl, hk, HI⟩ := hrel
    obtain ⟨o', M', hB, hM', hd, hc⟩ := HI.out
    have hB' := hB
    obtain ⟨v, ps, hA⟩ := hB
    by_cases hex : ∃ q ∈ ps, earlyB a n q.1 = true
    · obtain ⟨i, q, hi, hq, hbf⟩ := first_of hex
      have IX : ∀ w2, Below wr.heap.size wr w2 → Calls Try.prog 48 #[v, .func (.func 36) #[.agg #[.int .i64 a, .int .i64 n]] #[]] w2 fun r w3 => r = .returned (.int .i64 (i : Int)) ∧ Below w2.heap.size w2 w3 := fun w2 hb2 => idxEarly_hit (hA.below hb2).q.rowE (hA.below hb2).rds _ _ hi hq hbf
      have TK := btake_core hA hj0 hi IX
      have FI := fun (w4 : World) (hm : QMoved wr o' w4 j b 61 [.int .i64 most] (HeapedBut ps q)) => hA.taken (List.mem_of_getElem? hi) hm hj0
      have hqm := hA.has.mem (List.mem_of_getElem? hi)
      have hdl := dropM_less hA.has.srt hqm hq
      have HN : Hid (∀ w4, QMoved wr o' w4 j b 61 [.int .i64 most] (HeapedBut ps q) → ∀ ob, DropW w o j b most a n M (k + 1) (w4.alloc ob)) := fun w4 hm ob => by
        obtain ⟨o4, g1, _, g3⟩ := FI w4 hm
        exact ⟨_, _, g1.below (balloc (Below.refl _ _) _), (hM'.trans g3).trans (Mv.of_below 0 (balloc (Below.refl _ _) _)), by rw [hdl.1]; exact hd, by omega⟩
      have HK : Hid (k < 16) := (show k < 16 from by have := HCn.out; omega)
      obtain ⟨ax, cx, hxx⟩ := (hA.q.ents q (List.mem_of_getElem? hi)).2.1.len
      obtain ⟨e, x⟩ := q
      dsimp only at *
      subst hxx
      obtain ⟨ew, ei, ep, et, eu, en, eb, eg⟩ := e
      unfold ev at TK
      dsimp only at *
      have HTK : Hid (Calls _ _ _ _ _) := TK
      clear HI hB' hA hM' hd hc hex hi hq hbf IX TK FI hqm hdl HI0
      go_wp2_with (go_at_call 33; go_must (refine HTK.out.mono ?_; rintro r w3 ⟨rfl, hm3⟩; have HD : Hid (∀ ob, DropW w o j b most a n M (k + 1) (w3.alloc ob)) := HN.out w3 hm3; clear hm3))
      go_roundw
      case rel => exact ⟨k + 1, by go_num, by have := HK.out; omega, (show DropW _ _ _ _ _ _ _ _ _ _ from HD.out _)⟩
      case measure => have := HK.out; simp [intOf]; omega
    · have hno : ∀ q ∈ ps, earlyB a n q.1 = false := fun q hq => by
        cases hb : earlyB a n q.1 with
        | false => rfl
        | true => exact absurd ⟨q, hq, hb⟩ hex
      have IX : ∀ w2, Below wr.heap.size wr w2 → Calls Try.prog 48 #[v, .func (.func 36) #[.agg #[.int .i64 a, .int .i64 n]] #[]] w2 fun r w3 => r = .returned (.int .i64 (-1)) ∧ Below w2.heap.size w2 w3 := fun w2 hb2 => idxEarly_none (hA.below hb2).q.rowE (hA.below hb2).rds _ _ hno
      have TK := take_none hA.q IX
      rw [len1] at TK
      have hnoM : ∀ e ∈ M', earlyB a n e = false := fun e he => by
        obtain ⟨x, hx⟩ := hA.has.of_mem he
        exact hno _ hx
      have h1 : dropM M' a n = M' := List.filter_eq_self.2 (fun f hf => by rw [hnoM f hf]; rfl)
      have h2 : M'.filter (earlyB a n) = [] := List.filter_eq_nil_iff.2 (fun f hf => by rw [hnoM f hf]; simp)
      rw [h2] at hc
      have hkc : k = (M.filter (earlyB a n)).length := by simpa using hc
      have HE : Hid (∀ w', Below wr.heap.size wr w' → ∃ o', BufIs w' o' j b most (dropM M a n) ∧ Mv [j] w o w' o') := fun w' hb => ⟨_, by rw [← hd, h1]; exact hB'.below hb, hM'.trans (Mv.of_below 0 hb)⟩
      unfold ev zeroE at TK
      dsimp only at TK
      have HTK : Hid (Calls _ _ _ _ _) := TK
      have HKC : Hid (k = (M.filter (earlyB a n)).length) := hkc
      clear HI hB' hA hM' hd hc hex hno IX TK hnoM h1 h2 HI0 hkc HCn
      go_wp2_with (go_at_call 33; go_must (refine HTK.out.mono ?_; rintro r w3 ⟨rfl, hb3⟩))
      go_ret
      refine ⟨?_, HE.out _ (balloc hb3 _)⟩
      rw [HKC.out]
      rfl

theorem Kp0.reown {I : List Nat} {w w' : World} {o o' : Nat → Nat} {y : Value} {l : List Int} (h : Kp0 w' o' y l) (m : Mv I w o w' o') : Kp0 w' (newTo o w 0) y l := by
  refine ⟨h.1, fun hl k hk => ?_⟩
  by_cases hlt : k < w.heap.size
  · rw [newTo_old hlt, ← m.ext k hlt]
    exact h.2 hl k hk
  · exact newTo_new (by omega)

theorem OutAt.set {w : World} {o : Nat → Nat} {c B g cap n : Nat} {ys : List (Ent × Value)} (h : OutAt w o c B (.slice (some ⟨g, 0, none⟩) n cap) ys) (hc0 : c ≠ 0) {k : Nat} (hk : k < ys.length) {e : Ent} {y : Value} (he : EOk e) (hy : Kp0 w o y e.b) :
    OutAt (put8 w g (k * 8) e y) (newTo o w 0) c B (.slice (some ⟨g, 0, none⟩) n cap) (ys.set k (e, y)) ∧ Mv [c] w o (put8 w g (k * 8) e y) (newTo o w 0) := by
  have hn := h.rowE.cap.1
  have hr := h.row
  rw [← hn] at hr
  have R := row_put8 hr hn hk e y
  have M : Mv [c] w o (put8 w g (k * 8) e y) (newTo o w 0) := Mv.of_grown R.2 (fun k hk _ => by cases hk; rw [(h.own g rfl).1]; simp)
  refine ⟨⟨by rw [List.length_set, ← hn]; exact R.1, fun k' hk' => ⟨by rw [newTo_old (h.row.lt k' hk').2]; exact (h.own k' hk').1, (h.own k' hk').2⟩, fun q hq => ?_⟩, M⟩
  rcases List.mem_or_eq_of_mem_set hq with r | r
  · exact h.ents.mv M (by simp; omega) q r
  · rw [r]
    exact ⟨he, hy.mv M (by simp; omega)⟩

/-- The list's row, in a new block. -/
def AllW (w : World) (o : Nat → Nat) (c : Nat) (M : List Ent) (v : Value) (wr : World) : Prop := ∃ o' ys, OutAt wr o' c w.heap.size v ys ∧ ys.map (·.1) = M ∧ Mv [c] w o wr o'

theorem map_set_same {ys : List (Ent × Value)} {k : Nat} {e : Ent} {x y : Value} (h : ys[k]? = some (e, x)) : (ys.set k (e, y)).map (·.1) = ys.map (·.1) := by
  rw [List.map_set]
  apply List.ext_getElem?
  intro i
  rw [List.getElem?_set]
  by_cases hi : k = i
  · subst hi
    rw [if_pos rfl, List.length_map, if_pos (List.getElem?_eq_some_iff.1 h).1, List.getElem?_map, h]
    rfl
  · rw [if_neg hi]

theorem ball_nil (w : World) : Calls Try.prog 23 #[.pointer none] w fun r w' => r = .returned (.slice none 0 0) ∧ w' = w := by
  go_enter Try.func23, Try.ntmps23
  go_wp2
  go_ret
  exact ⟨rfl, rfl⟩

theorem ball_any {w : World} {o : Nat → Nat} {j b : Nat} {most : Int} {M : List Ent} (h : BufIs w o j b most M) :
    Calls Try.prog 23 #[ptr b] w fun r w' => ∃ v', r = .returned v' ∧ ∃ rs, rs.map (·.1) = M ∧ OutAt w' (newTo o w 0) 0 w.heap.size v' rs ∧ Below w.heap.size w w' := by
  have hml := h.len
  have hright := h.right
  obtain ⟨v, ps, h⟩ := h
  obtain ⟨c, hc1, hcj, hcf⟩ := fresh_owner w o j
  have hAO : Calls Try.prog 38 #[.pointer (some ⟨b, 1, none⟩)] w fun r w' => ∃ v', r = .returned v' ∧ ∃ rs, InOrd ps rs ∧ w'.ownsRow 0 38 8 v' rs.length (flatE rs) ∧ (∀ k, v'.ownBlock = some k → w.heap.size ≤ k) ∧ Below w.heap.size w w' := by
    have I := inOrder_any h.q (by have := h.pslen; omega) h.has.heap
    rw [len1] at I
    exact I
  have HST : Hid (∀ (w1 : World) (v1 : Value) rs, InOrd ps rs → w1.ownsRow 0 38 8 v1 rs.length (flatE rs) → (∀ k, v1.ownBlock = some k → w.heap.size ≤ k) → Below w.heap.size w w1 → AllW w o c M v1 w1 ∧ rs.length = M.length) := fun w1 v1 rs hi hr hk hb => by
    have hm := h.has.inOrd hi
    refine ⟨⟨newTo o w c, rs, ⟨hr, fun k hk' => ⟨newTo_new (hk k hk'), hk k hk'⟩, fun q hq => h.q.ents.mv (Mv.of_below (I := []) c hb) (by simp) q (hi.perm.mem_iff.1 hq)⟩, hm, Mv.of_below c hb⟩, ?_⟩
    have := congrArg List.length hm
    simpa using this
  have HEN : Hid (∀ (wr : World) (v1 : Value), AllW w o c M v1 wr → ∃ rs, rs.map (·.1) = M ∧ OutAt wr (newTo o w 0) 0 w.heap.size v1 rs ∧ Below w.heap.size w wr) := fun wr v1 hw => by
    obtain ⟨o', ys, h1, h2, h3⟩ := hw
    exact ⟨ys, h2, ⟨h1.row, fun k hk => ⟨newTo_new (h1.own k hk).2, (h1.own k hk).2⟩, fun q hq => ⟨(h1.ents q hq).1, (h1.ents q hq).2.reown h3⟩⟩, h3.below (Nat.le_refl _) (fun k hk => by have := hcf k hk; simp; omega)⟩
  have HIO : Hid (Calls _ _ _ _ _) := hAO
  have HRg : Hid (∀ e ∈ M, rightE e) := hright
  have hc0 : c ≠ 0 := by omega
  clear h hAO hcf hright
  go_enter Try.func23, Try.ntmps23
  go_wp2_with (go_at_call 38; go_must (refine HIO.out.mono ?_; rintro r w1 ⟨v1, rfl, rs, h1, h2, h3, h4⟩; have H1 := HST.out w1 v1 rs h1 h2 h3 h4; obtain ⟨a1, c1, hv1, hcc⟩ := slice_of_own h2; rw [H1.2] at hv1; subst hv1; have HA : Hid (AllW w o c M (.slice a1 M.length c1) w1) := H1.1; clear H1 h1 h2 h3 h4 hcc))
  go_loopw [14] (fun i wr => ∃ k : Nat, i = .int .i64 k ∧ k ≤ M.length ∧ Hid (AllW w o c M (.slice a1 M.length c1) wr)) (fun i _ => M.length - (intOf i).toNat)
  case atStart => exact ⟨0, rfl, by omega, HA⟩
  case round =>
    obtain ⟨k, rfl, hk, HI⟩ := hrel
    by_cases hkl : k < M.length
    · obtain ⟨o', ys, hO, hm, hM⟩ := HI.out
      have hyl : ys.length = M.length := by have := congrArg List.length hm; simpa using this
      obtain ⟨q, hq⟩ : ∃ q, ys[k]? = some q := ⟨_, List.getElem?_eq_getElem (by omega)⟩
      obtain ⟨g, hg⟩ : ∃ g, a1 = some ⟨g, 0, none⟩ := by
        rcases hO.row.2 with ⟨e, h0⟩ | ⟨g, cap, cur, e, _⟩
        · omega
        · simp only [Value.slice.injEq] at e
          exact ⟨g, e.1⟩
      subst hg
      have hE := hO.ents q (List.mem_of_getElem? hq)
      have hlen : q.1.b.length ≤ 1100 := by
        have : q.1 ∈ M := by rw [← hm]; exact List.mem_map_of_mem (List.mem_of_getElem? hq)
        exact (HRg.out _ this).2.2.2.2.2.2
      have hrow := hO.row
      rw [hyl] at hrow
      have CP := fun (w2 : World) (hb2 : Below wr.heap.size wr w2) => copied_mv (w := w2) (o := newTo o' wr 0) (e := q.1) (x := q.2) (hE.2.mv (Mv.of_below (I := []) 0 hb2) (by simp)) (by omega)
      have hcap : M.length ≤ c1 ∧ c1 ≤ 9223372036854775807 := ⟨hO.rowE.cap.2.1, hO.rowE.cap.2.2⟩
      have HC : ∀ k' u, (ec q.1 q.2)[k']? = some u → wr.cell? ⟨g, k * 8 + k', none⟩ = some u := fun k' u hu => row_cell hrow hq hyl.symm k' u hu
      have HC3 : Hid (∀ w3, Below wr.heap.size wr w3 → (∀ k' u, (ec q.1 q.2)[k']? = some u → w3.cell? ⟨g, k * 8 + k', none⟩ = some u) ∧ ∀ k', w3.frozen? ⟨g, k', none⟩ = false) := fun w3 hb => by
        have h3 := (hO.mv (Mv.of_below (I := []) 0 hb) (by simp) (by simp)).row
        rw [hyl] at h3
        exact ⟨fun k' u hu => row_cell h3 hq hyl.symm k' u hu, fun k' => h3.frozenAt k'⟩
      have HN : Hid (∀ (w2 w3 : World) (y : Value), Below wr.heap.size wr w2 → Below w2.heap.size w2 w3 → Kp0 w3 (newTo (newTo o' wr 0) w2 0) y q.1.b → AllW w o c M (.slice (some ⟨g, 0, none⟩) M.length c1) (put8 w3 g (k * 8) q.1 y)) := fun w2 w3 y hb2 hb3 hy => by
        have m2 : Mv [c] wr o' w2 (newTo o' wr 0) := Mv.of_below 0 hb2
        have m3 : Mv [c] w2 (newTo o' wr 0) w3 (newTo (newTo o' wr 0) w2 0) := Mv.of_below 0 hb3
        have h3 := (hO.mv (Mv.of_below (I := []) 0 hb2) (by simp) (by simp)).mv (Mv.of_below (I := []) 0 hb3) (by simp) (by simp)
        have S := h3.set hc0 (k := k) (by omega) hE.1 hy
        exact ⟨_, _, S.1, by rw [map_set_same (x := q.2) hq]; exact hm, ((hM.trans m2).trans m3).trans S.2⟩
      obtain ⟨e, x⟩ := q
      dsimp only at *
      obtain ⟨ax, cx, hxx⟩ := hE.2.1.len
      subst hxx
      unfold put8 at HN
      obtain ⟨ew, ei, ep, et, eu, en, eb, eg⟩ := e
      unfold ec at HC HC3
      unfold ev at CP
      dsimp only at *
      have c0 := HC 0 _ rfl; have c1' := HC 1 _ rfl; have c2 := HC 2 _ rfl; have c3 := HC 3 _ rfl; have c4 := HC 4 _ rfl; have c5 := HC 5 _ rfl; have c6 := HC 6 _ rfl; have c7 := HC 7 _ rfl
      simp only [Nat.add_zero] at c0
      have HCP : Hid (_) := CP
      obtain ⟨w2, hw2⟩ : ∃ w2, w2 = wr.alloc (.cells #[.int .i64 ew, .int .i64 ei, .int .u64 ep, .int .i64 et, .int .i64 eu, .int .i64 en, .slice ax eb.length cx, .int .u64 eg] 38) := ⟨_, rfl⟩
      have HB2 : Hid (Below wr.heap.size wr w2) := by show Below _ _ _; rw [hw2]; exact balloc (Below.refl _ _) _
      have HX2 : Hid (Blk w2 wr.heap.size 38 [.int .i64 ew, .int .i64 ei, .int .u64 ep, .int .i64 et, .int .i64 eu, .int .i64 en, .slice ax eb.length cx, .int .u64 eg]) := by show Blk _ _ _ _; rw [hw2]; exact blk_new wr _ 38
      have HW2 : Hid (_ = _) := hw2
      clear HI hO hm hM hq hE hrow CP HC hw2 HA hyl
      go_upto_region 7 with fail
      rw [← HW2.out]
      clear HW2 c0 c1' c2 c3 c4 c5 c6 c7
      obtain ⟨sz, hsz⟩ : ∃ sz, sz = wr.heap.size := ⟨_, rfl⟩
      rw [← hsz] at HX2 ⊢
      clear hsz
      have d0 := HX2.out.cell 0 _ rfl; have d1 := HX2.out.cell 1 _ rfl; have d2 := HX2.out.cell 2 _ rfl; have d3 := HX2.out.cell 3 _ rfl; have d4 := HX2.out.cell 4 _ rfl; have d5 := HX2.out.cell 5 _ rfl; have d6 := HX2.out.cell 6 _ rfl; have d7 := HX2.out.cell 7 _ rfl
      go_wp2_with (go_at_call 29; go_must (refine (HCP.out w2 HB2.out).mono ?_; rintro r w3 ⟨y, rfl, hy3, hb3⟩; obtain ⟨ay, cy, hyy⟩ := hy3.1.len; subst hyy; obtain ⟨hcc, hff⟩ := HC3.out w3 (bnext HB2.out hb3); have b0 := hcc 0 _ rfl; have b1 := hcc 1 _ rfl; have b2 := hcc 2 _ rfl; have b3 := hcc 3 _ rfl; have b4 := hcc 4 _ rfl; have b5 := hcc 5 _ rfl; have b6 := hcc 6 _ rfl; have b7 := hcc 7 _ rfl; have f0 := hff (k * 8); have f1 := hff (k * 8 + 1); have f2 := hff (k * 8 + 2); have f3 := hff (k * 8 + 3); have f4 := hff (k * 8 + 4); have f5 := hff (k * 8 + 5); have f6 := hff (k * 8 + 6); have f7 := hff (k * 8 + 7); simp only [Nat.add_zero] at b0; have HW3 := HN.out w2 w3 _ HB2.out hb3 hy3; have HW : Hid (AllW _ _ _ _ _ _) := HW3; clear HW3 hcc hff hy3 hb3))
      go_roundw
      case rel => exact ⟨k + 1, by go_num, by omega, HW⟩
      case measure => simp [intOf]; omega
    · obtain rfl : k = M.length := by omega
      go_wp2
      go_ret
      exact ⟨_, rfl, HEN.out _ _ HI.out⟩
end Go.Proofs.Ytigfklcclfpcjaa
