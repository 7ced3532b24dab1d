/-
  The reference's buffer: a block of two cells, its entries in a row that stays. find, Less, First.
-/
import Derived.Test.YtigfklcclfpcjaaBufM
import Derived.Test.YtigfklcclfpcjaaLast
namespace Go.Proofs.Ytigfklcclfpcjaa
set_option linter.unusedVariables false
set_option linter.unusedSimpArgs false
set_option synthInstance.maxSize 20000
set_option maxHeartbeats 400000
set_option maxRecDepth 20000
open Go.RowKit Go.Maps

section
variable {P : Program} {C : World → Prop} {Q : Exit → Act → World → Prop} {a : Act} {w : World} {l : List Oper} {i : Nat} {o : Oper} {r : List (Bool × Nat)}
/-- A step whose guard is shut. -/
theorem ord_shut (hi : l[i]? = some o) (hw : Region.wanted o (yielded l.toArray a.tmps) = false) (h : wpQuiet P l.toArray C (fun a' => wpOrd P l.toArray C Q (pickOrd l r) a' w) [o] a) : wpOrd P l.toArray C Q (pickOrd l ((false, i) :: r)) a w := by
  rw [pickOrd_cons hi]
  show stepOp P l.toArray C false o (wpOrd P l.toArray C Q (pickOrd l r)) a w
  unfold stepOp
  rw [if_neg (by simp)]
  unfold wpQuiet at h
  rw [if_neg (by rw [hw]; simp)] at h
  exact ⟨undef, .inr ⟨hw, rfl⟩, h⟩
end

structure RBufAt (w : World) (o : Nat → Nat) (j b : Nat) (most : Int) (v : Value) (ps : List (Ent × Value)) (M : List Ent) : Prop where
  blk : Blk w b 32 [.int .i64 most, v]
  ob : o b = j
  out : OutAt w o 0 0 v ps
  map : ps.map (·.1) = M
def RBufIs (w : World) (o : Nat → Nat) (j b : Nat) (most : Int) (M : List Ent) : Prop := ∃ v ps, RBufAt w o j b most v ps M
section
variable {w w' : World} {o o' : Nat → Nat} {j b : Nat} {most : Int} {v : Value} {ps : List (Ent × Value)} {M : List Ent}
theorem RBufAt.mv {I : List Nat} (h : RBufAt w o j b most v ps M) (m : Mv I w o w' o') (h0 : 0 ∉ I) (hj : j ∉ I) : RBufAt w' o' j b most v ps M := ⟨h.blk.block (m.block b h.blk.lt (by rw [h.ob]; exact hj)), by rw [m.ext b h.blk.lt]; exact h.ob, h.out.mv m h0 h0, h.map⟩
theorem RBufIs.mv {I : List Nat} (h : RBufIs w o j b most M) (m : Mv I w o w' o') (h0 : 0 ∉ I) (hj : j ∉ I) : RBufIs w' o' j b most M := by
  obtain ⟨v, ps, h⟩ := h
  exact ⟨v, ps, h.mv m h0 hj⟩
theorem RBufAt.below (h : RBufAt w o j b most v ps M) (hb : Below w.heap.size w w') : RBufAt w' (newTo o w 0) j b most v ps M := h.mv (Mv.of_below (I := []) 0 hb) (by simp) (by simp)
theorem RBufIs.below (h : RBufIs w o j b most M) (hb : Below w.heap.size w w') : RBufIs w' (newTo o w 0) j b most M := h.mv (Mv.of_below (I := []) 0 hb) (by simp) (by simp)
theorem RBufAt.len (h : RBufAt w o j b most v ps M) : ps.length = M.length := by
  have := congrArg List.length h.map
  simpa using this
theorem RBufAt.none (h : RBufAt w o j b most v ps M) {a i : Int} (hf : findM M a i = .none) : ∀ q ∈ ps, atB a i q.1 = false := fun q hq => findM_none hf _ (by rw [← h.map]; exact List.mem_map_of_mem hq)
theorem RBufAt.some (h : RBufAt w o j b most v ps M) (hs : Srt M) {a i : Int} {e : Ent} (hf : findM M a i = .some e) : ∃ (k : Nat) (x : Value), ps[k]? = .some (e, x) ∧ ∀ m p, m < k → ps[m]? = .some p → atB a i p.1 = false := by
  obtain ⟨h1, h2, h3⟩ := findM_some hf
  rw [← h.map] at h1
  obtain ⟨q0, hq0, hqe⟩ := List.mem_map.1 h1
  obtain ⟨k, q, hk, hq, hb⟩ := first_of (P := atB a i) ⟨q0, hq0, (atB_iff _ _ _).2 (by rw [hqe]; exact ⟨h2, h3⟩)⟩
  have hq' := (atB_iff _ _ _).1 hq
  have hm : q.1 ∈ M := by rw [← h.map]; exact List.mem_map_of_mem (List.mem_of_getElem? hk)
  have : q.1 = e := srt_uniq hs hm (by rw [← h.map]; exact h1) (by omega) (by omega)
  refine ⟨k, q.2, ?_, hb⟩
  rw [hk, ← this]
end

theorem rfind_hit {w : World} {b : Nat} {most : Int} {v : Value} {ps : List (Ent × Value)} (hB : Blk w b 32 [.int .i64 most, v]) (hv : RowE w v ps) (a i : Int) {k : Nat} {q : Ent × Value} (hk : ps[k]? = some q) (hq : atB a i q.1 = true) (hbf : ∀ m p, m < k → ps[m]? = some p → atB a i p.1 = false) :
    Calls Try.prog 31 #[ptr b, .int .i64 a, .int .i64 i] w fun r w' => r = .returned (.int .i64 (k : Int)) ∧ w' = w := by
  have hkl : k < ps.length := (List.getElem?_eq_some_iff.1 hk).1
  obtain ⟨av, cap, rfl⟩ := hv.len
  have hcap := hv.cap.2
  have hc1 := hB.cell 1 _ rfl
  have HV : Hid (RowE w (.slice av ps.length cap) ps) := hv
  have HK : Hid (ps[k]? = some q) := hk
  have HQ : Hid (q.1.w = a ∧ q.1.i = i) := (atB_iff _ _ _).1 hq
  have HB : Hid (∀ m p, m < k → ps[m]? = some p → ¬ (p.1.w = a ∧ p.1.i = i)) := fun m p h h' => (atB_no _ _ _).1 (hbf m p h h')
  clear hB hv hk hq hbf
  go_enter Try.func31, Try.ntmps31
  go_wp2
  go_loopw [7] (fun n wr => ∃ m : Nat, n = .int .i64 m ∧ m ≤ k ∧ Hid (w = wr)) (fun n _ => ps.length - (intOf n).toNat)
  case atStart => exact ⟨0, rfl, by omega, (show w = w from rfl)⟩
  case round =>
    obtain ⟨m, rfl, hm, HZ⟩ := hrel
    have hz := HZ.out
    subst hz
    clear HZ
    obtain ⟨p, hp⟩ : ∃ p, ps[m]? = some p := ⟨_, List.getElem?_eq_getElem (by omega)⟩
    obtain ⟨g, off, ea, hc⟩ := HV.out.at hp
    subst ea
    have c0 := hc 0 _ rfl
    have c1 := hc 1 _ rfl
    simp only [Nat.add_zero] at c0
    by_cases hmk : m < k
    · have hno := HB.out m p hmk hp
      generalize p.1.w = pw at *
      generalize p.1.i = pi at *
      clear hc hp
      by_cases h1 : pw = a
      · subst h1
        have h2 : (pi == i) = false := by
          rw [beq_eq_false_iff_ne]
          intro h
          exact hno ⟨rfl, h⟩
        clear hno
        go_wp2
        go_roundw
        case rel => exact ⟨m + 1, by go_num, by omega, trivial⟩
        case measure => simp [intOf]; omega
      · have h2 : (pw == a) = false := by simpa using h1
        clear hno h1
        go_wp2
        go_roundw
        case rel => exact ⟨m + 1, by go_num, by omega, trivial⟩
        case measure => simp [intOf]; omega
    · have hmk' : m = k := by omega
      subst hmk'
      have := HK.out
      rw [hp] at this
      cases this
      rw [HQ.out.1] at c0
      rw [HQ.out.2] at c1
      clear hc hp
      go_wp2
      go_ret
      exact ⟨rfl, rfl⟩

theorem rfind_none {w : World} {b : Nat} {most : Int} {v : Value} {ps : List (Ent × Value)} (hB : Blk w b 32 [.int .i64 most, v]) (hv : RowE w v ps) (a i : Int) (hbf : ∀ q ∈ ps, atB a i q.1 = false) :
    Calls Try.prog 31 #[ptr b, .int .i64 a, .int .i64 i] w fun r w' => r = .returned (.int .i64 (-1)) ∧ w' = w := by
  obtain ⟨av, cap, rfl⟩ := hv.len
  have hcap := hv.cap.2
  have hc1 := hB.cell 1 _ rfl
  have HV : Hid (RowE w (.slice av ps.length cap) ps) := hv
  have HB : Hid (∀ q ∈ ps, ¬ (q.1.w = a ∧ q.1.i = i)) := fun q h => (atB_no _ _ _).1 (hbf q h)
  clear hB hv hbf
  go_enter Try.func31, Try.ntmps31
  go_wp2
  go_loopw [7] (fun n wr => ∃ m : Nat, n = .int .i64 m ∧ m ≤ ps.length ∧ Hid (w = wr)) (fun n _ => ps.length - (intOf n).toNat)
  case atStart => exact ⟨0, rfl, by omega, (show w = w from rfl)⟩
  case round =>
    obtain ⟨m, rfl, hm, HZ⟩ := hrel
    have hz := HZ.out
    subst hz
    clear HZ
    by_cases hmk : m < ps.length
    · obtain ⟨p, hp⟩ : ∃ p, ps[m]? = some p := ⟨_, List.getElem?_eq_getElem (by omega)⟩
      obtain ⟨g, off, ea, hc⟩ := HV.out.at hp
      subst ea
      have c0 := hc 0 _ rfl
      have c1 := hc 1 _ rfl
      simp only [Nat.add_zero] at c0
      have hno := HB.out p (List.mem_of_getElem? hp)
      generalize p.1.w = pw at *
      generalize p.1.i = pi at *
      clear hc hp
      by_cases h1 : pw = a
      · subst h1
        have h2 : (pi == i) = false := by
          rw [beq_eq_false_iff_ne]
          intro h
          exact hno ⟨rfl, h⟩
        clear hno
        go_wp2
        go_roundw
        case rel => exact ⟨m + 1, by go_num, by omega, trivial⟩
        case measure => simp [intOf]; omega
      · have h2 : (pw == a) = false := by simpa using h1
        clear hno h1
        go_wp2
        go_roundw
        case rel => exact ⟨m + 1, by go_num, by omega, trivial⟩
        case measure => simp [intOf]; omega
    · obtain rfl : m = ps.length := by omega
      go_wp2
      go_ret
      exact ⟨rfl, rfl⟩

theorem rless_any (w : World) (e f : Ent) (x y : Value) (hx : Rd w x e.b) (hy : Rd w y f.b) : Calls Try.prog 32 #[ev e x, ev f y] w fun r w' => r = .returned (.bool (keyB e f)) ∧ Below w.heap.size w w' := by
  have HK : Hid (keyB e f = true ↔ (e.w < f.w ∨ e.w = f.w ∧ e.i < f.i)) := keyB_iff e f
  generalize keyB e f = kb at HK ⊢
  obtain ⟨ax, cx, hxx⟩ := hx.len
  subst hxx
  obtain ⟨ay, cy, hyy⟩ := hy.len
  subst hyy
  obtain ⟨ew, ei, ep, et, eu, en, eb, eg⟩ := e
  obtain ⟨fw, fi, fp, ft, fu, fn, fb, fg⟩ := f
  unfold ev
  dsimp only at *
  clear hx hy
  generalize eb.length = nl
  generalize fb.length = nm
  by_cases c1 : ew < fw
  · go_enter Try.func32, Try.ntmps32
    go_wp2
    go_ret
    refine ⟨ret_bool ?_, balloc (balloc (Below.refl _ _) _) _⟩
    rw [HK.out]
    exact ⟨fun _ => .inl c1, fun _ => by first | rfl | simp [c1]⟩
  · by_cases c2 : ew = fw
    · subst c2
      go_enter Try.func32, Try.ntmps32
      go_wp2
      all_goals
        go_ret
        refine ⟨ret_bool ?_, balloc (balloc (Below.refl _ _) _) _⟩
        rw [HK.out]
        (try simp only [decide_eq_true_eq])
        first
          | omega
          | (simp; done)
          | (simp; omega)
    · have c3 : (ew == fw) = false := by simpa using c2
      have HC : Hid (¬ ew = fw) := c2
      clear c2
      go_enter Try.func32, Try.ntmps32
      go_wp2
      go_ret
      refine ⟨ret_bool ?_, balloc (balloc (Below.refl _ _) _) _⟩
      rw [HK.out]
      have := HC.out
      simp
      omega

section
variable {w : World} {o : Nat → Nat} {j b : Nat} {most : Int} {M : List Ent}
theorem rfirst_none (h : RBufIs w o j b most []) : Calls Try.prog 21 #[ptr b] w fun r w' => r = .returned (.tuple #[ev zeroE (.slice none 0 0), .bool false]) ∧ Below w.heap.size w w' := by
  obtain ⟨v, ps, h⟩ := h
  have hps : ps = [] := List.map_eq_nil_iff.1 h.map
  subst hps
  obtain ⟨w1, hw1⟩ : ∃ w1, w1 = w.alloc (.cells #[.int .i64 0, .int .i64 0, .int .u64 0, .int .i64 0, .int .i64 0, .int .i64 0, .slice none 0 0, .int .u64 0] 38) := ⟨_, rfl⟩
  have hb1 : Below w.heap.size w w1 := by rw [hw1]; exact balloc (Below.refl _ _) _
  have X1 : Blk w1 w.heap.size 38 [.int .i64 0, .int .i64 0, .int .u64 0, .int .i64 0, .int .i64 0, .int .i64 0, .slice none 0 0, .int .u64 0] := by rw [hw1]; exact blk_new w _ 38
  obtain ⟨a, c, hvv, _⟩ := slice_of_own h.out.row
  subst hvv
  have hc1 := (h.blk.below hb1).cell 1 _ rfl
  simp only [List.length_nil] at hc1
  have HB1 : Hid (Below w.heap.size w w1) := hb1
  have HW1 : Hid (_ = _) := hw1
  have z0 := X1.cell 0 _ rfl; have z1 := X1.cell 1 _ rfl; have z2 := X1.cell 2 _ rfl; have z3 := X1.cell 3 _ rfl; have z4 := X1.cell 4 _ rfl; have z5 := X1.cell 5 _ rfl; have z6 := X1.cell 6 _ rfl; have z7 := X1.cell 7 _ rfl
  have f0 := X1.frozen 0; have f1 := X1.frozen 1; have f2 := X1.frozen 2; have f3 := X1.frozen 3; have f4 := X1.frozen 4; have f5 := X1.frozen 5; have f6 := X1.frozen 6; have f7 := X1.frozen 7
  unfold ev zeroE
  dsimp only
  clear h hw1 hb1 X1
  go_enter Try.func21, Try.ntmps21
  go_upto_region 1 with fail
  rw [← HW1.out]
  clear HW1
  obtain ⟨n, hn⟩ : ∃ n, n = w.heap.size := ⟨_, rfl⟩
  rw [← hn] at z0 z1 z2 z3 z4 z5 z6 z7 f0 f1 f2 f3 f4 f5 f6 f7 ⊢
  have HNN : Hid (n = w.heap.size) := hn
  clear hn
  go_wp2
  have G := grown_set8 w1 n (.int .i64 0) (.int .i64 0) (.int .u64 0) (.int .i64 0) (.int .i64 0) (.int .i64 0) (.slice none 0 0) (.int .u64 0)
  refine bodyPost_ret (v := .tuple #[.agg #[.int .i64 0, .int .i64 0, .int .u64 0, .int .i64 0, .int .i64 0, .int .i64 0, .slice none 0 0, .int .u64 0], .bool false]) ?_ rfl ⟨rfl, ?_⟩
  · rw [results_cell_tmp rfl]
    go_simp
  · exact bgrown HB1.out (by have := HNN.out; omega) G

theorem rfirst_some {e : Ent} {M' : List Ent} (h : RBufIs w o j b most (e :: M')) : EOk e ∧ Calls Try.prog 21 #[ptr b] w fun r w' => ∃ y, r = .returned (.tuple #[ev e y, .bool true]) ∧ Kp0 w' (newTo o w 0) y e.b ∧ Below w.heap.size w w' := by
  obtain ⟨v, ps, h⟩ := h
  cases ps with
  | nil => have := h.map; simp at this
  | cons q ps =>
    have hqe : q.1 = e := by have := h.map; simp at this; exact this.1
    have hE := h.out.ents q (by simp)
    rw [hqe] at hE
    refine ⟨hE.1, ?_⟩
    obtain ⟨w1, hw1⟩ : ∃ w1, w1 = w.alloc (.cells #[.int .i64 0, .int .i64 0, .int .u64 0, .int .i64 0, .int .i64 0, .int .i64 0, .slice none 0 0, .int .u64 0] 38) := ⟨_, rfl⟩
    have hb1 : Below w.heap.size w w1 := by rw [hw1]; exact balloc (Below.refl _ _) _
    have X1 : Blk w1 w.heap.size 38 [.int .i64 0, .int .i64 0, .int .u64 0, .int .i64 0, .int .i64 0, .int .i64 0, .slice none 0 0, .int .u64 0] := by rw [hw1]; exact blk_new w _ 38
    have h1 := h.below hb1
    obtain ⟨a, c, hvv, hcc⟩ := slice_of_own h.out.row
    subst hvv
    have hc1 := h1.blk.cell 1 _ rfl
    obtain ⟨g, off, ea, hc⟩ := h1.out.rowE.at (i := 0) (q := q) rfl
    subst ea
    have HKp : Hid (∀ w', Below w.heap.size w w' → Kp0 w' (newTo o w 0) q.2 e.b) := fun w' hb => hE.2.mv (Mv.of_below (I := []) 0 hb) (by simp)
    obtain ⟨ax, cx, hxx⟩ := hE.2.1.len
    obtain ⟨e', x⟩ := q
    dsimp only at *
    subst hqe hxx
    obtain ⟨ew, ei, ep, et, eu, en, eb, eg⟩ := e'
    unfold ec at hc
    unfold ev
    dsimp only at *
    have c0 := hc 0 _ rfl; have c1 := hc 1 _ rfl; have c2 := hc 2 _ rfl; have c3 := hc 3 _ rfl; have c4 := hc 4 _ rfl; have c5 := hc 5 _ rfl; have c6 := hc 6 _ rfl; have c7 := hc 7 _ rfl
    simp only [Nat.add_zero, Nat.zero_mul] at c0 c1 c2 c3 c4 c5 c6 c7
    have z0 := X1.cell 0 _ rfl; have z1 := X1.cell 1 _ rfl; have z2 := X1.cell 2 _ rfl; have z3 := X1.cell 3 _ rfl; have z4 := X1.cell 4 _ rfl; have z5 := X1.cell 5 _ rfl; have z6 := X1.cell 6 _ rfl; have z7 := X1.cell 7 _ rfl
    have f0 := X1.frozen 0; have f1 := X1.frozen 1; have f2 := X1.frozen 2; have f3 := X1.frozen 3; have f4 := X1.frozen 4; have f5 := X1.frozen 5; have f6 := X1.frozen 6; have f7 := X1.frozen 7
    have HB1 : Hid (Below w.heap.size w w1) := hb1
    have HW1 : Hid (_ = _) := hw1
    have hpos : 0 < (((⟨ew, ei, ep, et, eu, en, eb, eg⟩ : Ent), (.slice ax eb.length cx : Value)) :: ps).length := by simp
    have hn16 : (((⟨ew, ei, ep, et, eu, en, eb, eg⟩ : Ent), (.slice ax eb.length cx : Value)) :: ps).length ≤ 9223372036854775807 := by omega
    generalize (((⟨ew, ei, ep, et, eu, en, eb, eg⟩ : Ent), (.slice ax eb.length cx : Value)) :: ps).length = pl at *
    clear h h1 hb1 hw1 X1 hc hE
    go_enter Try.func21, Try.ntmps21
    go_upto_region 1 with fail
    rw [← HW1.out]
    clear HW1
    obtain ⟨n, hn⟩ : ∃ n, n = w.heap.size := ⟨_, rfl⟩
    rw [← hn] at z0 z1 z2 z3 z4 z5 z6 z7 f0 f1 f2 f3 f4 f5 f6 f7 ⊢
    have HNN : Hid (n = w.heap.size) := hn
    clear hn
    go_wp2
    have G := grown_set8 w1 n (.int .i64 ew) (.int .i64 ei) (.int .u64 ep) (.int .i64 et) (.int .i64 eu) (.int .i64 en) (.slice ax eb.length cx) (.int .u64 eg)
    have B := bgrown HB1.out (by have := HNN.out; omega) G
    refine bodyPost_ret (v := .tuple #[.agg #[.int .i64 ew, .int .i64 ei, .int .u64 ep, .int .i64 et, .int .i64 eu, .int .i64 en, .slice ax eb.length cx, .int .u64 eg], .bool true]) ?_ rfl ⟨.slice ax eb.length cx, rfl, HKp.out _ B, B⟩
    rw [results_cell_tmp rfl]
    go_simp
end
end Go.Proofs.Ytigfklcclfpcjaa
