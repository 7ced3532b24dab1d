/-
  write and Append of the journal.
-/
import Derived.Test.YtkcighejmjgalaaDoorJrn3
namespace Go.Proofs.YtkcighejmjgalaaDoor
set_option linter.unusedVariables false
set_option linter.unusedSimpArgs false
set_option synthInstance.maxSize 20000
set_option maxHeartbeats 2000000
set_option maxRecDepth 20000
open Go.RowKit Go.Maps

/-- Sectors, one behind the other, then a Sync; up to the first that is refused. -/
def wrAll : List (List Int) → Dk → Nat → Int × Dk
  | [], D, _ => D.sync
  | s :: r, D, p => if (D.write (p : Int) s).1 ≠ 0 then D.write (p : Int) s else wrAll r (D.write (p : Int) s).2 (p + 1)
theorem wrAll_ok : ∀ (F : List (List Int)) (D : Dk) (p N : Nat), DOk D N → DOk (wrAll F D p).2 (N + F.length)
  | [], D, p, N, h => h.sync
  | s :: r, D, p, N, h => by
    unfold wrAll
    split
    · exact (h.write).mono (by simp)
    · have := wrAll_ok r _ (p + 1) (N + 1) (h.write (i := (p : Int)) (l := s))
      exact this.mono (by simp; omega)
theorem wrAll_drop {F : List (List Int)} {k : Nat} {s : List Int} (h : F[k]? = some s) (D : Dk) (p : Nat) : wrAll (F.drop k) D p = if (D.write (p : Int) s).1 ≠ 0 then D.write (p : Int) s else wrAll (F.drop (k + 1)) (D.write (p : Int) s).2 (p + 1) := by
  obtain ⟨h1, h2⟩ := List.getElem?_eq_some_iff.1 h
  rw [List.drop_eq_getElem_cons h1, h2]
  rfl

/-- What write has behind k sectors. -/
structure WrK (w : World) (o : Nat → Nat) (j db : Nat) (F : List (List Int)) (D : Dk) (p N k : Nat) (wr : World) (o' : Nat → Nat) (E : Dk) : Prop where
  d : DIs wr o' j db E
  ok : DOk E (N + k)
  mv : Mv [j] w o wr o'
  all : wrAll F D p = wrAll (F.drop k) E (p + k)

theorem Mv.undrew {I : List Nat} {w w' : World} {o o' : Nat → Nat} (h : Mv I w.drew o w' o') : Mv I w o w' o' := ⟨h.os, h.tape, h.output, h.size, h.ext, h.block⟩
theorem DIs.drew {w : World} {o : Nat → Nat} {j b : Nat} {D : Dk} (h : DIs w o j b D) : DIs w.drew o j b D := h.mv (mv_drewn (I := []) w o) (by simp)
theorem below_undrew {w w' : World} (h : Below w.drew.heap.size w.drew w') : Below w.heap.size w w' := ⟨h.os, h.tape, h.output, h.size, h.block⟩

theorem write51 {w : World} {o : Nat → Nat} {j jj jb db N : Nat} {J : Jk} {D : Dk} {bv : Value} {l : List Int} (hJ : JAt w o jj jb db J) (hok : JOk J) (hD : DIs w o j db D) (hDk : DOk D N) (hN : N + 84 ≤ 2000) (hjj : jj ≠ j) (hj0 : j ≠ 0) (hb : Rd w bv l) (hl : l.length ≤ 4000) :
    Calls Tryd.prog 57 #[ptr jb, bv] w fun r w' => r = .returned (.int .i64 (wrAll (frameL J.gen J.round J.count l) D J.next).1) ∧ ∃ o', DIs w' o' j db (wrAll (frameL J.gen J.round J.count l) D J.next).2 ∧ Mv [j] w o w' o' := by
  obtain ⟨ab, cb, rfl⟩ := hb.len
  have hcc := hok.cc
  have hnf := hok.nf
  have hff := hok.ff
  have hfk : frameK J.gen J.round l = 0 := frameK_zero.2 ⟨hl, hok.g0, hok.r0⟩
  have hfr := frame10 (w := w.drew) (seq := (J.count : Int)) hok.g hok.r (by unfold U32; omega) hb.drewn (by omega)
  rw [hfk, frame_some hfk] at hfr
  have HFr : Hid (Calls Tryd.prog 69 #[.int .u32 J.gen, .int .u32 J.round, .int .u32 (J.count : Int), .slice ab l.length cb] w.drew fun r w' => ∃ v, r = .returned (.tuple #[v, .int .i64 0]) ∧ OutL w.drew.heap.size w' v (frameL J.gen J.round J.count l) ∧ Below w.drew.heap.size w.drew w') := hfr
  have hFl : (frameL J.gen J.round J.count l).length ≤ 84 := by rw [frameL_len]; exact partsN_le hl
  have HF64 : Hid (∀ s ∈ frameL J.gen J.round J.count l, s.length = 64) := fun s hs => frameL_64 hs
  have HJ : Hid (JAt w o jj jb db J) := hJ
  have e0 : ∀ z : WIn (JW jb db J), z.w.cell? ⟨jb, 1, none⟩ = some (.int .u32 J.gen) := fun z => z.ok.blk.cell 1 _ rfl
  have e1 : ∀ z : WIn (JW jb db J), z.w.cell? ⟨jb, 2, none⟩ = some (.int .u32 J.round) := fun z => z.ok.blk.cell 2 _ rfl
  have e2 : ∀ z : WIn (JW jb db J), z.w.cell? ⟨jb, 5, none⟩ = some (.int .i64 (J.count : Int)) := fun z => z.ok.blk.cell 5 _ rfl
  have e3 : ∀ z : WIn (JW jb db J), z.w.cell? ⟨jb, 0, none⟩ = some (ptr db) := fun z => z.ok.blk.cell 0 _ rfl
  have e4 : ∀ z : WIn (JW jb db J), z.w.cell? ⟨jb, 3, none⟩ = some (.int .i64 (J.next : Int)) := fun z => z.ok.blk.cell 3 _ rfl
  have ne : Nonempty (WIn (JW jb db J)) := ⟨⟨w, ⟨hJ.blk⟩⟩⟩
  have HJd : Hid (JW jb db J w.drew) := ⟨hJ.blk⟩
  have HStart : Hid (∀ w1, Below w.drew.heap.size w.drew w1 → WrK w o j db (frameL J.gen J.round J.count l) D J.next N 0 w1 (newTo o w 0) D ∧ JW jb db J w1) := fun w1 hb1 =>
    ⟨⟨hD.mv (Mv.of_below (I := []) 0 (below_undrew hb1)) (by simp), hDk, Mv.of_below 0 (below_undrew hb1), rfl⟩, ⟨hJ.blk.below (below_undrew hb1)⟩⟩
  have HKeep : Hid (∀ wr o', Mv [j] w o wr o' → JW jb db J wr) := fun wr o' m => ⟨(hJ.mv m (by simpa using hjj)).blk⟩
  have HKL : Hid (∀ w1 v, OutL w.drew.heap.size w1 v (frameL J.gen J.round J.count l) → KL w1 (newTo o w 0) v (frameL J.gen J.round J.count l)) := fun w1 v ho => OutL.kl0 (w := w) ho
  have hc2 : J.count ≤ 400 := by omega
  have hn2 : J.next ≤ 400 := by omega
  generalize hgF : frameL J.gen J.round J.count l = F at *
  obtain ⟨m, hm⟩ : ∃ m, m = F.length := ⟨_, rfl⟩
  have HM : Hid (m = F.length) := hm
  rw [← hm] at hFl
  clear hJ hb hfr hfk hok hD hDk hgF hm
  go_enter Tryd.func57, Tryd.ntmps57
  go_upto_region 1 with fail
  refine wp_region_tree (C := fun w' => ∃ z : WIn (JW jb db J), w' = z.w) (.still 0 (.still 1 (.still 2 (.still 3 (.still 4 (.still 5 (.still 6 (.still 7 (.still 8 (.still 9 (.still 10 (.still 11 (.still 12 (.still 13 (.one 14 (.still 15 (.still 16 (.still 17 (.still 18 (.still 19 .done)))))))))))))))))))) (by kernel_rfl) (by kernel_rfl) ⟨⟨w.drew, HJd.out⟩, rfl⟩ ?_
  generalize w.drew = wd at *
  iterate 14 (refine tree_still rfl rfl ?_; go_big_quiet_step (fail); refine wpQuiet_nil ?_)
  refine tree_one rfl rfl ?_
  go_simp
  refine HFr.out.mono ?_
  rintro r w1 ⟨v1, rfl, ho1, hb1⟩
  obtain ⟨hK1, hJ1⟩ := HStart.out w1 hb1
  have hkl1 := HKL.out w1 v1 ho1
  obtain ⟨a1, c1, hv1, hc11, hc12⟩ := hkl1.slice
  rw [← HM.out] at hv1 hc11
  subst hv1
  have HK1 : Hid (WrK w o j db F D J.next N 0 w1 (newTo o w 0) D) := hK1
  have HKL1 : Hid (KL w1 (newTo o w 0) (.slice a1 m c1) F) := hkl1
  have HJ1 : Hid (JW jb db J w1) := hJ1
  clear hK1 hkl1 hJ1 ho1 hb1
  refine ⟨⟨⟨w1, HJ1.out⟩, rfl⟩, ?_⟩
  iterate 5 (refine tree_still rfl rfl ?_; go_big_quiet_step (fail); refine wpQuiet_nil ?_)
  refine tree_done ?_
  go_wp2
  have hjn : 0 ∉ [j] := by simpa using hj0.symm
  go_loopw [33] (fun kv wr => ∃ (k : Nat) (o' : Nat → Nat) (E : Dk), k ≤ m ∧ kv = .int .i64 k ∧ Hid (WrK w o j db F D J.next N k wr o' E) ∧ Hid (KL wr o' (.slice a1 m c1) F)) (fun kv _ => m - (intOf kv).toNat)
  case atStart => exact ⟨0, _, D, Nat.zero_le _, rfl, HK1, HKL1⟩
  case round =>
    obtain ⟨k, o', E, hk, rfl, hK, hKL⟩ := hrel
    have hJr := HKeep.out wr o' hK.out.mv
    by_cases hlt : k < m
    · obtain ⟨qs, hq1, hq2⟩ := hKL.out
      obtain ⟨q, hq⟩ : ∃ q, qs[k]? = some q := ⟨_, List.getElem?_eq_getElem (by rw [← LL_len, hq2, ← HM.out]; exact hlt)⟩
      obtain ⟨bb, off, ea, hcell⟩ := hq1.rl.at hq
      have hFk : F[k]? = some q.2 := by rw [← hq2]; exact LL_at hq
      have hqr := hq1.rl.rd q (List.mem_of_getElem? hq)
      obtain ⟨qv, sec⟩ := q
      simp only at hcell hFk hqr
      have h64 : sec.length = 64 := HF64.out sec (List.mem_of_getElem? hFk)
      obtain ⟨qa, qc, hqv⟩ := hqr.len
      have HAll := hK.out.all
      rw [wrAll_drop hFk] at HAll
      obtain ⟨gv, nv, pv, dat⟩ := hK.out.d.drew
      have hw := write_any dat hK.out.ok (by omega) ((J.next : Int) + (k : Int)) hqr.drewn
      rw [← Int.natCast_add] at hw
      have HW : Hid (Calls Tryd.prog 52 #[ptr db, .int .i64 ((J.next : Int) + (k : Int)), qv] wr.drew fun r w' => r = .returned (.int .i64 (E.write ((J.next + k : Nat) : Int) sec).1) ∧ ∃ o2, DIs w' o2 j db (E.write ((J.next + k : Nat) : Int) sec).2 ∧ Mv [j] wr.drew o' w' o2) := by
        rw [← Int.natCast_add]
        exact hw
      have HOk2 : Hid (DOk (E.write ((J.next + k : Nat) : Int) sec).2 (N + (k + 1))) := hK.out.ok.write
      have HMv : Hid (Mv [j] w o wr o') := hK.out.mv
      have HAll2 : Hid (wrAll F D J.next = if (E.write ((J.next + k : Nat) : Int) sec).1 ≠ 0 then E.write ((J.next + k : Nat) : Int) sec else wrAll (F.drop (k + 1)) (E.write ((J.next + k : Nat) : Int) sec).2 (J.next + k + 1)) := HAll
      subst hqv
      rw [h64] at hcell HW
      subst ea
      have HJd2 : Hid (JW jb db J wr.drew) := ⟨hJr.blk⟩
      generalize E.write ((J.next + k : Nat) : Int) sec = WQ at *
      clear hqr hq hFk hq1 hq2 HAll dat hw h64 hK hJr
      go_upto_region 7 with fail
      refine wp_region_tree (C := fun w' => ∃ z : WIn (JW jb db J), w' = z.w) (.still 0 (.still 1 (.still 2 (.still 3 (.still 4 (.still 5 (.still 6 (.still 7 (.still 8 (.still 9 (.still 10 (.one 11 (.still 12 .done))))))))))))) (by kernel_rfl) (by kernel_rfl) ⟨⟨wr.drew, HJd2.out⟩, rfl⟩ ?_
      have HMd : Hid (Mv [j] w o wr.drew o' ∧ KL wr.drew o' (.slice (some ⟨bb, off, none⟩) m c1) F) := ⟨HMv.out.trans (mv_drewn wr o'), hKL.out.mv (mv_drewn (I := []) wr o') (by simp)⟩
      generalize wr.drew = wq at *
      iterate 11 (refine tree_still rfl rfl ?_; go_big_quiet_step (fail); refine wpQuiet_nil ?_)
      refine tree_one rfl rfl ?_
      go_simp
      refine HW.out.mono ?_
      rintro r w3 ⟨rfl, o3, d3, m3⟩
      have HM3 : Hid (Mv [j] w o w3 o3) := HMd.out.1.trans m3
      have HKL3 : Hid (KL w3 o3 (.slice (some ⟨bb, off, none⟩) m c1) F) := HMd.out.2.mv m3 hjn
      have HD3 : Hid (DIs w3 o3 j db WQ.2) := d3
      have HJ3 : Hid (JW jb db J w3) := HKeep.out w3 o3 HM3.out
      clear d3 m3
      refine ⟨⟨⟨w3, HJ3.out⟩, rfl⟩, ?_⟩
      refine tree_still rfl rfl ?_
      go_big_quiet_step (fail)
      refine wpQuiet_nil ?_
      refine tree_done ?_
      by_cases hz : WQ.1 = 0
      · have hz' : (WQ.1 != 0) = false := by simpa using hz
        have HK4 : Hid (WrK w o j db F D J.next N (k + 1) w3 o3 WQ.2) := ⟨HD3.out, HOk2.out, HM3.out, by rw [HAll2.out, if_neg (by simpa using hz), Nat.add_assoc]⟩
        clear hz
        go_wp2
        go_roundw
        case rel => exact ⟨k + 1, o3, WQ.2, by omega, by go_num, HK4, HKL3⟩
        case measure => simp [intOf]; omega
      · have hz' : (WQ.1 != 0) = true := by simpa using hz
        have HE : Hid (wrAll F D J.next = WQ) := by
          show _ = _
          rw [HAll2.out, if_pos hz]
        clear hz
        go_wp2
        go_ret
        rw [HE.out]
        exact ⟨rfl, o3, HD3.out, HM3.out⟩
    · obtain rfl : k = m := by omega
      have HE : Hid (wrAll F D J.next = E.sync) := by
        have := hK.out.all
        rw [List.drop_of_length_le (by rw [← HM.out]; exact Nat.le_refl _)] at this
        exact this
      obtain ⟨gv, nv, pv, dat⟩ := hK.out.d
      have HS : Hid (Calls Tryd.prog 56 #[ptr db] wr fun r w' => r = .returned (.int .i64 E.sync.1) ∧ ∃ o2, DIs w' o2 j db E.sync.2 ∧ Mv [j] wr o' w' o2) := sync_any dat hK.out.ok (by omega)
      have HMv : Hid (Mv [j] w o wr o') := hK.out.mv
      have l0 := hJr.blk.cell 0 _ rfl
      have l0' : wr.cell? ⟨jb, 0, none⟩ = some (ptr db) := l0
      clear hK hJr dat l0 e0 e1 e2 e3 e4 ne
      go_wp2_with (go_at_call 56; go_must (refine HS.out.mono ?_; rintro r w3 ⟨rfl, o3, d3, m3⟩; have HD3 : Hid (DIs w3 o3 j db E.sync.2) := d3; have HM3 : Hid (Mv [j] w o w3 o3) := HMv.out.trans m3; clear d3 m3))
      go_ret
      rw [HE.out]
      exact ⟨rfl, o3, HD3.out, HM3.out⟩

/-! ### Append -/
def Jk.append (J : Jk) (D : Dk) (l : List Int) : Int × Jk × Dk :=
  if 4000 < l.length then (3, J, D) else if J.failed then (19, J, D) else if J.fin - J.next < partsN l.length then (18, J, D)
  else if (wrAll (frameL J.gen J.round J.count l) D J.next).1 ≠ 0 then ((wrAll (frameL J.gen J.round J.count l) D J.next).1, { J with failed := true }, (wrAll (frameL J.gen J.round J.count l) D J.next).2)
  else (0, { J with next := J.next + partsN l.length, count := J.count + 1 }, (wrAll (frameL J.gen J.round J.count l) D J.next).2)
theorem JOk.append {J : Jk} (h : JOk J) (D : Dk) (l : List Int) : JOk (J.append D l).2.1 := by
  unfold Jk.append
  split
  · exact h
  · split
    · exact h
    · split
      · exact h
      · rename_i hf
        split
        · exact ⟨h.g, h.g0, h.r, h.r0, h.nf, h.ff, h.cc⟩
        · have h1 := h.nf
          have h2 := h.cc
          have h3 := partsN_pos l.length
          exact ⟨h.g, h.g0, h.r, h.r0, by simp only; omega, h.ff, by simp only; omega⟩
theorem append_dok {J : Jk} {D : Dk} {l : List Int} {N : Nat} (h : DOk D N) : DOk (J.append D l).2.2 (N + 84) := by
  unfold Jk.append
  split
  · exact h.mono (by omega)
  · rename_i h4
    split
    · exact h.mono (by omega)
    · split
      · exact h.mono (by omega)
      · have h1 := wrAll_ok (frameL J.gen J.round J.count l) D J.next N h
        rw [frameL_len] at h1
        have h2 := partsN_le (show l.length ≤ 4000 by omega)
        split
        · exact h1.mono (by omega)
        · exact h1.mono (by omega)
theorem JAt.set {w : World} {o : Nat → Nat} {jj jb db : Nat} {J K : Jk} (h : JAt w o jj jb db J) {w' : World} (hg : w.grownBy w' (some jb)) (hB : Blk w' jb 97 (jc db K)) : JAt w' o jj jb db K ∧ Mv [jj] w o w' o := ⟨⟨hB, h.ob⟩, Mv.of_set hg (fun _ => by rw [h.ob]; simp)⟩

theorem append29_nil (w : World) (bv : Value) : Calls Tryd.prog 28 #[.pointer none, bv] w fun r w' => r = .returned (.int .i64 23) ∧ w' = w := by
  go_enter Tryd.func28, Tryd.ntmps28
  go_wp2
  go_ret
  exact ⟨rfl, rfl⟩
theorem append29 {w : World} {o : Nat → Nat} {j jj jb db N : Nat} {J : Jk} {D : Dk} {bv : Value} {l : List Int} (hJ : JAt w o jj jb db J) (hok : JOk J) (hD : DIs w o j db D) (hDk : DOk D N) (hN : N + 84 ≤ 2000) (hjj : jj ≠ j) (hj0 : j ≠ 0) (hb : Rd w bv l) (hl : l.length ≤ 1000000) :
    Calls Tryd.prog 28 #[ptr jb, bv] w fun r w' => r = .returned (.int .i64 (J.append D l).1) ∧ ∃ o', JAt w' o' jj jb db (J.append D l).2.1 ∧ DIs w' o' j db (J.append D l).2.2 ∧ Mv [j, jj] w o w' o' := by
  obtain ⟨ab, cb, rfl⟩ := hb.len
  have hcb := hb.cap
  have HSame : Hid (∃ o', JAt w o' jj jb db J ∧ DIs w o' j db D ∧ Mv [j, jj] w o w o') := ⟨o, hJ, hD, Mv.refl _ _ _⟩
  have HP : Hid (Calls Tryd.prog 47 #[.int .i64 (l.length : Int)] w fun r w' => r = .returned (.int .i64 (partsI l.length)) ∧ w' = w) := parts13 _ w (by unfold I64; omega)
  unfold Jk.append
  by_cases h4 : 4000 < l.length
  · rw [if_pos h4]
    rw [partsI_big h4] at HP
    clear hJ hD hb h4
    go_enter Tryd.func28, Tryd.ntmps28
    go_wp2_with (go_at_call 47; go_must (refine HP.out.mono ?_; rintro r w2 ⟨rfl, hw2⟩; replace hw2 := hw2.symm; subst hw2))
    go_ret
    exact ⟨rfl, HSame.out⟩
  · rw [if_neg h4]
    rw [partsI_nat (by omega)] at HP
    have hp1 : 0 < partsN l.length := partsN_pos _
    have hp2 : partsN l.length ≤ 84 := partsN_le (by omega)
    have hp0 : (((partsN l.length : Nat) : Int) == 0) = false := by simp; omega
    have c6 := hJ.blk.cell 6 _ rfl
    have c6' : w.cell? ⟨jb, 6, none⟩ = some (.bool J.failed) := c6
    have hnf := hok.nf
    have hff := hok.ff
    have hcc := hok.cc
    have HR : Hid (Calls Tryd.prog 36 #[ptr jb] w fun r w' => r = .returned (.int .i64 ((J.fin - J.next : Nat) : Int)) ∧ Below w.heap.size w w') := room27 hJ.blk hok
    cases hf : J.failed
    · rw [if_neg (by simp)]
      rw [hf] at c6'
      by_cases hroom : J.fin - J.next < partsN l.length
      · rw [if_pos hroom]
        have HB : Hid (∀ w2, Below w.heap.size w w2 → ∃ o', JAt w2 o' jj jb db J ∧ DIs w2 o' j db D ∧ Mv [j, jj] w o w2 o') := fun w2 hb2 => ⟨newTo o w 0, hJ.mv (Mv.of_below (I := []) 0 hb2) (by simp), hD.mv (Mv.of_below (I := []) 0 hb2) (by simp), Mv.of_below 0 hb2⟩
        generalize J.fin - J.next = rm at *
        generalize partsN l.length = pn at *
        clear hJ hD hb c6
        go_enter Tryd.func28, Tryd.ntmps28
        go_wp2_with (first
          | (go_at_call 47; go_must (refine HP.out.mono ?_; rintro r w2 ⟨rfl, hw2⟩; replace hw2 := hw2.symm; subst hw2))
          | (go_at_call 36; go_must (refine HR.out.mono ?_; rintro r w2 ⟨rfl, hb2⟩; have HB2 : Hid (Below w.heap.size w w2) := hb2; clear hb2)))
        go_ret
        exact ⟨rfl, HB.out _ HB2.out⟩
      · rw [if_neg hroom]
        have HW : Hid (∀ w2, Below w.heap.size w w2 → Calls Tryd.prog 57 #[ptr jb, .slice ab l.length cb] w2 fun r w' => r = .returned (.int .i64 (wrAll (frameL J.gen J.round J.count l) D J.next).1) ∧ ∃ o', JAt w' o' jj jb db J ∧ DIs w' o' j db (wrAll (frameL J.gen J.round J.count l) D J.next).2 ∧ Mv [j, jj] w o w' o') := fun w2 hb2 => by
          refine (write51 (hJ.mv (Mv.of_below (I := []) 0 hb2) (by simp)) hok (hD.mv (Mv.of_below (I := []) 0 hb2) (by simp)) hDk hN hjj hj0 (hb.below hb2) (by omega)).mono ?_
          rintro r w' ⟨rfl, o', d', m'⟩
          exact ⟨rfl, o', (hJ.mv (Mv.of_below (I := []) 0 hb2) (by simp)).mv m' (by simpa using hjj), d', (Mv.of_below 0 hb2).trans (m'.widen (by simp))⟩
        generalize wrAll (frameL J.gen J.round J.count l) D J.next = WQ at *
        by_cases hz : WQ.1 = 0
        · rw [if_neg (by simpa using hz)]
          rw [hz] at HW
          have HFin : Hid (∀ w3 o3, JAt w3 o3 jj jb db J → DIs w3 o3 j db WQ.2 → Mv [j, jj] w o w3 o3 → w3.cell? ⟨jb, 3, none⟩ = some (.int .i64 (J.next : Int)) ∧ w3.frozen? ⟨jb, 3, none⟩ = false ∧ w3.cell? ⟨jb, 5, none⟩ = some (.int .i64 (J.count : Int)) ∧ w3.frozen? ⟨jb, 5, none⟩ = false ∧ ∃ o', JAt ((w3.setCell ⟨jb, 3, none⟩ (.int .i64 ((J.next : Int) + ((partsN l.length : Nat) : Int)))).setCell ⟨jb, 5, none⟩ (.int .i64 ((J.count : Int) + 1))) o' jj jb db { J with next := J.next + partsN l.length, count := J.count + 1 } ∧ DIs ((w3.setCell ⟨jb, 3, none⟩ (.int .i64 ((J.next : Int) + ((partsN l.length : Nat) : Int)))).setCell ⟨jb, 5, none⟩ (.int .i64 ((J.count : Int) + 1))) o' j db WQ.2 ∧ Mv [j, jj] w o ((w3.setCell ⟨jb, 3, none⟩ (.int .i64 ((J.next : Int) + ((partsN l.length : Nat) : Int)))).setCell ⟨jb, 5, none⟩ (.int .i64 ((J.count : Int) + 1))) o') := fun w3 o3 hj3 hd3 hm3 => by
            have hB := (hj3.blk.set 3 (.int .i64 ((J.next : Int) + ((partsN l.length : Nat) : Int)))).set 5 (.int .i64 ((J.count : Int) + 1))
            have hG : w3.grownBy ((w3.setCell ⟨jb, 3, none⟩ (.int .i64 ((J.next : Int) + ((partsN l.length : Nat) : Int)))).setCell ⟨jb, 5, none⟩ (.int .i64 ((J.count : Int) + 1))) (some jb) := grown_trans (grown_setCell _ _ _ _) (grown_setCell _ _ _ _) (fun k hk => .inl hk)
            obtain ⟨r1, r2⟩ := hj3.set (K := { J with next := J.next + partsN l.length, count := J.count + 1 }) hG (by simpa [jc] using hB)
            exact ⟨hj3.blk.cell 3 _ rfl, hj3.blk.frozen 3, hj3.blk.cell 5 _ rfl, hj3.blk.frozen 5, o3, r1, hd3.mv r2 (by simpa using hjj.symm), hm3.trans (r2.widen (by simp))⟩
          rw [hf] at HFin
          generalize partsN l.length = pn at *
          generalize hrm : J.fin - J.next = rm at *
          have hnx : J.next ≤ 400 := by omega
          have hct : J.count ≤ 400 := by omega
          clear hJ hD hb c6 hz hrm
          go_enter Tryd.func28, Tryd.ntmps28
          go_wp2_with (first
            | (go_at_call 47; go_must (refine HP.out.mono ?_; rintro r w2 ⟨rfl, hw2⟩; replace hw2 := hw2.symm; subst hw2))
            | (go_at_call 36; go_must (refine HR.out.mono ?_; rintro r w2 ⟨rfl, hb2⟩; have HC := HW.out w2 hb2; clear hb2))
            | (go_at_call 57; go_must (refine HC.mono ?_; rintro r w3 ⟨rfl, o3, hj3, hd3, hm3⟩; obtain ⟨l1, l2, l3, l4, hfin⟩ := HFin.out w3 o3 hj3 hd3 hm3; have HX : Hid _ := hfin; clear hj3 hd3 hm3 hfin)))
          go_ret
          exact ⟨rfl, HX.out⟩
        · rw [if_pos hz]
          have hz' : (WQ.1 != 0) = true := by simpa using hz
          have HFin : Hid (∀ w3 o3, JAt w3 o3 jj jb db J → DIs w3 o3 j db WQ.2 → Mv [j, jj] w o w3 o3 → w3.cell? ⟨jb, 6, none⟩ = some (.bool J.failed) ∧ w3.frozen? ⟨jb, 6, none⟩ = false ∧ ∃ o', JAt (w3.setCell ⟨jb, 6, none⟩ (.bool true)) o' jj jb db { J with failed := true } ∧ DIs (w3.setCell ⟨jb, 6, none⟩ (.bool true)) o' j db WQ.2 ∧ Mv [j, jj] w o (w3.setCell ⟨jb, 6, none⟩ (.bool true)) o') := fun w3 o3 hj3 hd3 hm3 => by
            have hB := hj3.blk.set 6 (.bool true)
            obtain ⟨r1, r2⟩ := hj3.set (K := { J with failed := true }) (grown_setCell _ _ _ _) (by simpa [jc] using hB)
            exact ⟨hj3.blk.cell 6 _ rfl, hj3.blk.frozen 6, o3, r1, hd3.mv r2 (by simpa using hjj.symm), hm3.trans (r2.widen (by simp))⟩
          rw [hf] at HFin
          generalize partsN l.length = pn at *
          generalize hrm : J.fin - J.next = rm at *
          clear hJ hD hb c6 hz hrm
          go_enter Tryd.func28, Tryd.ntmps28
          go_wp2_with (first
            | (go_at_call 47; go_must (refine HP.out.mono ?_; rintro r w2 ⟨rfl, hw2⟩; replace hw2 := hw2.symm; subst hw2))
            | (go_at_call 36; go_must (refine HR.out.mono ?_; rintro r w2 ⟨rfl, hb2⟩; have HC := HW.out w2 hb2; clear hb2))
            | (go_at_call 57; go_must (refine HC.mono ?_; rintro r w3 ⟨rfl, o3, hj3, hd3, hm3⟩; obtain ⟨l1, l2, hfin⟩ := HFin.out w3 o3 hj3 hd3 hm3; have HX : Hid _ := hfin; clear hj3 hd3 hm3 hfin)))
          go_ret
          exact ⟨rfl, HX.out⟩
    · rw [if_pos rfl]
      rw [hf] at c6'
      generalize partsN l.length = pn at *
      clear hJ hD hb c6
      go_enter Tryd.func28, Tryd.ntmps28
      go_wp2_with (go_at_call 47; go_must (refine HP.out.mono ?_; rintro r w2 ⟨rfl, hw2⟩; replace hw2 := hw2.symm; subst hw2))
      go_ret
      exact ⟨rfl, HSame.out⟩
end Go.Proofs.YtkcighejmjgalaaDoor
