/-
  The chapter's example comes: 'alive' of layer 10 answers true.
-/
import Derived.Test.YtngmgdngimnljaaJrn4
import Derived.Lib.SlBytesConst
namespace Go.Proofs.Ytngmgdngimnljaa
set_option linter.unusedVariables false
set_option linter.unusedSimpArgs false
set_option synthInstance.maxSize 20000
set_option maxHeartbeats 2000000
set_option maxRecDepth 20000
open Go.RowKit Go.Maps

/-- A row of bytes in a new block, whatever its mark. -/
theorem rd_row (w : World) (l : List Int) (e : TypeId) (m : Nat × Nat) (ho : Oct l) (hl : l.length ≤ maxLen) : Rd (w.alloc (.cells (cs8 l).toArray e m)) (.slice (some ⟨w.heap.size, 0, none⟩) l.length l.length) l := by
  refine ⟨ho, some ⟨w.heap.size, 0, none⟩, l.length, rfl, Nat.le_refl _, hl, (fun h => by cases h), fun _ => ⟨w.heap.size, 0, rfl, fun j hj => ?_⟩⟩
  have hh : (w.alloc (.cells (cs8 l).toArray e m)).heap[w.heap.size]? = some (.cells (cs8 l).toArray e m) := by
    show (w.heap.push _)[w.heap.size]? = _
    simp
  unfold World.cell?
  simp only [hh, Nat.zero_add]
  simpa using cs8_at l j hj
theorem rd_twoM (w : World) (x y : Int) (e : TypeId) (m : Nat × Nat) (hx : 0 ≤ x ∧ x < 256) (hy : 0 ≤ y ∧ y < 256) : Rd (w.alloc (.cells #[.int .u8 x, .int .u8 y] e m)) (.slice (some ⟨w.heap.size, 0, none⟩) 2 2) [x, y] :=
  rd_row w [x, y] e m (Oct.cons hx (Oct.cons hy Oct.nil)) (by simp [maxLen])

def zo : Nat → Nat := fun _ => 0
theorem mvz_below {I : List Nat} {w w' : World} {o' : Nat → Nat} (m : Mv I w zo w' o') (h : 0 ∉ I) : Below w.heap.size w w' := m.below (Nat.le_refl _) (fun k hk => by simpa [zo] using h)

theorem ab_scan0 : scan (cont (newD 4) 0 4) 1 = ([], 0) := by decide +kernel
theorem ab_late0 : latest (cont (newD 4) 0 4) 1 = 0 := by decide +kernel
def abJ : Jk := ⟨1, 1, 0, 4, 0, false⟩
theorem ab_J : openJ (cont (newD 4) 0 4) 0 4 1 = abJ := by
  unfold openJ
  rw [ab_scan0, ab_late0]
  rfl
theorem ab_app : (abJ.append (newD 4) [97, 98]).1 = 0 := by decide +kernel
def abD : Dk := (abJ.append (newD 4) [97, 98]).2.2
theorem ab_wrong : wrongK abD 0 4 1 = 0 := by decide +kernel
theorem ab_late : latest (cont abD 0 4) 1 = 1 := by decide +kernel
theorem ab_scan : (scan (cont abD 0 4) 1).1 = [[97, 98]] := by decide +kernel
theorem ab_len : abD.now.length = 4 := by decide +kernel
theorem ab_frame : frameL 1 1 0 [97, 98] = [partB 1 1 0 0 1 [97, 98]] := by decide +kernel
theorem ab_fk : frameK 1 1 [97, 98] = 0 := by decide +kernel
theorem one_of {qs : List VB} {x : List Int} (h : LL qs = [x]) : ∃ v, qs = [(v, x)] := by
  match qs, h with
  | [(v, y)], h =>
    simp [LL] at h
    exact ⟨v, by rw [h]⟩
theorem alive9 (w : World) : Calls Try.prog 9 #[] w fun r w' => r = .returned (.bool true) ∧ Below w.heap.size w w' := by
  have kc := fun (w : World) (C : Array Value) (n c : Nat) => Lib.run_convert_bytes_const (P := Try.prog) w 23 5 C n c Try.underlying23 Try.underlying5
  have HF : Hid (∀ w : World, Calls Try.prog 10 #[.int .u32 1, .int .u32 1, .int .u32 0, .slice (some ⟨w.heap.size, 0, none⟩) 2 2] (w.alloc (.cells #[.int .u8 97, .int .u8 98] 5 (2, 3))) fun r w' => ∃ v, r = .returned (.tuple #[v, .int .i64 0]) ∧ ∃ q, RL w' v [(q, partB 1 1 0 0 1 [97, 98])] ∧ Below w.heap.size w w') := fun w => by
    have hr := rd_twoM w 97 98 5 (2, 3) (by omega) (by omega)
    refine (frame10 (gen := 1) (round := 1) (seq := 0) (by unfold U32; omega) (by unfold U32; omega) (by unfold U32; omega) hr (by simp)).mono ?_
    rintro r w' ⟨v, rfl, ⟨qs, q1, q2, q3⟩, hb⟩
    rw [frame_some ab_fk, ab_frame] at q2
    obtain ⟨q, rfl⟩ := one_of q2
    exact ⟨v, rfl, q, q1, bnext (balloc (Below.refl _ _) _) hb⟩
  have HN : Hid (∀ w : World, Calls Try.prog 19 #[.int .i64 4] w fun r w' => r = .returned (.tuple #[ptr (w.heap.size + 2), .int .i64 0]) ∧ DIs w' (newTo zo w 5) 5 (w.heap.size + 2) (newD 4) ∧ Mv [5, 7] w zo w' (newTo zo w 5)) := fun w => by
    refine (dnew_any w zo 5 4 (by omega) (by omega) (by omega)).mono ?_
    rintro r w' ⟨rfl, hd, hb⟩
    exact ⟨rfl, hd, Mv.of_below 5 hb⟩
  have HO1 : Hid (∀ (w1 w : World) (o : Nat → Nat) (db : Nat), DIs w o 5 db (newD 4) → Mv [5, 7] w1 zo w o → Calls Try.prog 23 #[ptr db, .int .i64 0, .int .i64 4, .int .u32 1] w fun r w' => ∃ jb v, r = .returned (.tuple #[ptr jb, v, .int .i64 0]) ∧ (∃ a n c, v = .slice a n c) ∧ ∃ o', JAt w' o' 7 jb db abJ ∧ DIs w' o' 5 db (newD 4) ∧ Mv [5, 7] w1 zo w' o') := fun w1 w o db hd m => by
    refine (open_ok hd (by simp [newD]) (base := 0) (size := 4) (gen := 1) (by unfold U32; omega) (by decide +kernel) (by rw [ab_late0]; decide) 7).mono ?_
    rintro r w' ⟨jb, v, rfl, o', hj, hk, hm, hle⟩
    rw [ab_J] at hj
    obtain ⟨a, c, e, _⟩ := hk.slice
    exact ⟨jb, v, rfl, ⟨a, _, c, e⟩, o', hj, hd.mv hm (by simp), m.trans (hm.widen (by simp))⟩
  have HA : Hid (∀ (w1 w : World) (o : Nat → Nat) (db jb : Nat), JAt w o 7 jb db abJ → DIs w o 5 db (newD 4) → Mv [5, 7] w1 zo w o → Calls Try.prog 29 #[ptr jb, .slice (some ⟨w.heap.size, 0, none⟩) 2 2] (w.alloc (.cells #[.int .u8 97, .int .u8 98] 5 (2, 3))) fun r w' => r = .returned (.int .i64 0) ∧ ∃ o', DIs w' o' 5 db abD ∧ Mv [5, 7] w1 zo w' o') := fun w1 w o db jb hj hd m => by
    have hr := rd_twoM w 97 98 5 (2, 3) (by omega) (by omega)
    have hm : ∀ I, Mv I w o (w.alloc (.cells #[.int .u8 97, .int .u8 98] 5 (2, 3))) (newTo o w 0) := fun I => Mv.of_below 0 (balloc (Below.refl _ _) _)
    refine (append29 (hj.mv (hm []) (by simp)) ⟨by unfold U32 abJ; simp, by decide, by unfold U32 abJ; simp, by decide, by decide, by decide, by decide⟩ (hd.mv (hm []) (by simp)) (newD_ok 4 (by omega) (by omega)) (by omega) (by omega) (by omega) hr (by simp)).mono ?_
    rintro r w' ⟨rfl, o', hj', hd', hm'⟩
    rw [ab_app]
    exact ⟨rfl, o', hd', m.trans ((hm _).trans hm')⟩
  have HO2 : Hid (∀ (w1 w : World) (o : Nat → Nat) (db : Nat), DIs w o 5 db abD → Mv [5, 7] w1 zo w o → Calls Try.prog 23 #[ptr db, .int .i64 0, .int .i64 4, .int .u32 1] w fun r w' => ∃ jb v, r = .returned (.tuple #[ptr jb, v, .int .i64 0]) ∧ ∃ q, RL w' v [(q, [97, 98])] ∧ Below w1.heap.size w1 w') := fun w1 w o db hd m => by
    refine (open_ok hd (by rw [ab_len]; omega) (base := 0) (size := 4) (gen := 1) (by unfold U32; omega) ab_wrong (by rw [ab_late]; decide) 7).mono ?_
    rintro r w' ⟨jb, v, rfl, o', hj, ⟨qs, k1, k2⟩, hm, hle⟩
    rw [ab_scan] at k2
    obtain ⟨q, rfl⟩ := one_of k2
    exact ⟨jb, v, rfl, q, k1.rl, mvz_below (m.trans (hm.widen (by simp))) (by simp)⟩
  go_enter Try.func9, Try.ntmps9
  go_wp2_with fail
  refine (HF.out w).mono ?_
  rintro r w1 ⟨v1, rfl, q1, hr1, hb1⟩
  obtain ⟨a1, c1, hv1⟩ := hr1.len
  rw [show [(q1, partB 1 1 0 0 1 [97, 98])].length = 1 from rfl] at hv1
  subst hv1
  have hc1 := hr1.row.caps
  obtain ⟨fb, fo, ha1, hf1⟩ := hr1.at (i := 0) rfl
  subst ha1
  obtain ⟨sb, so, sc, hq1, hs1, hs2, hs3, hs4⟩ := (hr1.rd _ (List.mem_singleton.2 rfl)).spot (by show 0 < (partB 1 1 0 0 1 [97, 98]).length; decide)
  simp only at hq1 hf1
  rw [show (partB 1 1 0 0 1 [97, 98]).length = 64 from by decide] at hq1 hs1
  subst hq1
  have g0 : w1.cell? ⟨sb, so, none⟩ = some (.int .u8 197) := hs4 0 (by show 0 < (partB 1 1 0 0 1 [97, 98]).length; decide)
  have g15 : w1.cell? ⟨sb, so + 15, none⟩ = some (.int .u8 2) := hs4 15 (by show 15 < (partB 1 1 0 0 1 [97, 98]).length; decide)
  have g17 : w1.cell? ⟨sb, so + 17, none⟩ = some (.int .u8 98) := hs4 17 (by show 17 < (partB 1 1 0 0 1 [97, 98]).length; decide)
  rw [Nat.add_zero] at hf1
  have HG : Hid (∀ wz, Below w1.heap.size w1 wz → wz.cell? ⟨fb, fo, none⟩ = some (.slice (some ⟨sb, so, none⟩) 64 sc) ∧ wz.cell? ⟨sb, so, none⟩ = some (.int .u8 197) ∧ wz.cell? ⟨sb, so + 15, none⟩ = some (.int .u8 2) ∧ wz.cell? ⟨sb, so + 17, none⟩ = some (.int .u8 98)) := fun wz hb =>
    ⟨(hb.cell (World.block_lt_of_cell? w1 _ hf1)).trans hf1, (hb.cell (World.block_lt_of_cell? w1 _ g0)).trans g0, (hb.cell (World.block_lt_of_cell? w1 _ g15)).trans g15, (hb.cell (World.block_lt_of_cell? w1 _ g17)).trans g17⟩
  have HB1 : Hid (Below w.heap.size w w1) := hb1
  have hcap1 : 1 ≤ c1 := hc1.2.1
  have hcap2 : c1 ≤ 9223372036854775807 := hc1.2.2
  clear hr1 hb1 hc1 hf1 hs3 hs4 g0 g15 g17
  go_wp2_with fail
  refine (HN.out w1).mono ?_
  rintro r w2 ⟨rfl, hd2, hm2⟩
  have HD2 : Hid (DIs w2 (newTo zo w1 5) 5 (w1.heap.size + 2) (newD 4)) := hd2
  have HM2 : Hid (Mv [5, 7] w1 zo w2 (newTo zo w1 5)) := hm2
  clear hd2 hm2
  go_wp2_with fail
  refine (HO1.out w1 w2 _ _ HD2.out HM2.out).mono ?_
  rintro r w3 ⟨jb, v3, rfl, ⟨a3, n3, c3, hv3⟩, o3, hj3, hd3, hm3⟩
  subst hv3
  have HA3 := HA.out w1 w3 o3 _ jb hj3 hd3 hm3
  clear hj3 hd3 hm3
  go_wp2_with fail
  refine HA3.mono ?_
  rintro r w4 ⟨rfl, o4, hd4, hm4⟩
  have HO4 := HO2.out w1 w4 o4 _ hd4 hm4
  clear hd4 hm4 HA3
  go_wp2_with fail
  refine HO4.mono ?_
  rintro r w5 ⟨jb5, v5, rfl, q5, hr5, hb5⟩
  obtain ⟨x0, x1, x2, x3⟩ := HG.out w5 hb5
  obtain ⟨a5, c5, hv5⟩ := hr5.len
  rw [show [(q5, ([97, 98] : List Int))].length = 1 from rfl] at hv5
  subst hv5
  have hc5 := hr5.row.caps
  obtain ⟨lb, lo, ha5, hl5⟩ := hr5.at (i := 0) rfl
  subst ha5
  have hq5 := hr5.rd _ (List.mem_singleton.2 rfl)
  simp only at hq5 hl5
  obtain ⟨a6, c6, hv6⟩ := hq5.len
  rw [show ([97, 98] : List Int).length = 2 from rfl] at hv6
  subst hv6
  rw [Nat.add_zero] at hl5
  have kr := run_convert_rd (P := Try.prog) w5 23 9 5 Try.underlying23 Try.underlying5 Try.underlying9 _ _ hq5
  have HB5 : Hid (Below w.heap.size w w5) := bnext HB1.out hb5
  have hcap5 : 1 ≤ c5 := hc5.2.1
  have hcap6 : c5 ≤ 9223372036854775807 := hc5.2.2
  have hse : ((strOfNums [97, 98]).toList == [97, 98]) = true := by decide +kernel
  clear hr5 hb5 hc5 hq5 HO4 HG kc
  go_wp2
  go_ret
  exact ⟨rfl, HB5.out⟩
end Go.Proofs.Ytngmgdngimnljaa
