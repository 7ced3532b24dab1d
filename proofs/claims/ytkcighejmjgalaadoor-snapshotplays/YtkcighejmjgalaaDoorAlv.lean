/-
  The chapter's example comes: 'alive' of layer 11 answers true.
-/
import Derived.Test.YtkcighejmjgalaaDoorGme
import Derived.Lib.SlBytesConst
namespace Go.Proofs.YtkcighejmjgalaaDoor
set_option linter.unusedVariables false
set_option linter.unusedSimpArgs false
set_option synthInstance.maxSize 20000
set_option maxHeartbeats 2000000
set_option maxRecDepth 20000
open Go.RowKit Go.Maps

/-- A row of bytes in a new block, whatever its mark. -/
theorem rd_row (w : World) (l : List Int) (e : TypeId) (m : Nat × Nat) (ho : Oct l) (hl : l.length ≤ maxLen) : Rd (w.alloc (.cells (cs8 l).toArray e m)) (.slice (some ⟨w.heap.size, 0, none⟩) l.length l.length) l := by
  refine ⟨ho, some ⟨w.heap.size, 0, none⟩, l.length, rfl, Nat.le_refl _, hl, (fun h => by cases h), fun _ => ⟨w.heap.size, 0, rfl, fun j hj => ?_⟩⟩
  have hh : (w.alloc (.cells (cs8 l).toArray e m)).heap[w.heap.size]? = some (.cells (cs8 l).toArray e m) := by
    show (w.heap.push _)[w.heap.size]? = _
    simp
  unfold World.cell?
  simp only [hh, Nat.zero_add]
  simpa using cs8_at l j hj
theorem rd_oneM (w : World) (x : Int) (e : TypeId) (m : Nat × Nat) (hx : 0 ≤ x ∧ x < 256) : Rd (w.alloc (.cells #[.int .u8 x] e m)) (.slice (some ⟨w.heap.size, 0, none⟩) 1 1) [x] := rd_row w [x] e m (Oct.cons hx Oct.nil) (by simp [maxLen])
theorem one_of {qs : List VB} {x : List Int} (h : LL qs = [x]) : ∃ v, qs = [(v, x)] := by
  match qs, h with
  | [(v, y)], h =>
    simp [LL] at h
    exact ⟨v, by rw [h]⟩
theorem hsize20 : hsize 20 = 9 := by decide
theorem alive6 {w : World} (hT : Tab w) : Calls Tryd.prog 6 #[] w fun r w' => r = .returned (.bool true) ∧ Below w.heap.size w w' := by
  have kc := fun (w : World) (C : Array Value) (n c : Nat) => Lib.run_convert_bytes_const (P := Tryd.prog) w 30 5 C n c Tryd.underlying30 Tryd.underlying5
  have HC : Hid (Calls Tryd.prog 7 #[.int .i64 20] w fun r w1 => ∃ db, r = .returned (.tuple #[ptr db, .int .i64 0]) ∧
      Calls Tryd.prog 8 #[ptr db] w1 fun r w2 => ∃ sb, r = .returned (.tuple #[ptr sb, .slice none 0 0, .slice none 0 0, .int .i64 0]) ∧ ∀ m,
      Calls Tryd.prog 11 #[ptr sb, .slice (some ⟨w2.heap.size, 0, none⟩) 1 1] (w2.alloc (.cells #[.int .u8 97] 5 m)) fun r w3 => r = .returned (.int .i64 0) ∧ ∀ m,
      Calls Tryd.prog 10 #[ptr sb, .slice (some ⟨w3.heap.size, 0, none⟩) 1 1] (w3.alloc (.cells #[.int .u8 120] 5 m)) fun r w4 => r = .returned (.int .i64 0) ∧ ∀ m,
      Calls Tryd.prog 11 #[ptr sb, .slice (some ⟨w4.heap.size, 0, none⟩) 1 1] (w4.alloc (.cells #[.int .u8 98] 5 m)) fun r w5 => r = .returned (.int .i64 0) ∧
      Calls Tryd.prog 8 #[ptr db] w5 fun r w6 => ∃ v0 v1 sb2, r = .returned (.tuple #[ptr sb2, v0, v1, .int .i64 0]) ∧ Rd w6 v0 [120] ∧ (∃ q, RL w6 v1 [(q, [98])]) ∧ Below w.heap.size w w6) := by
    refine (g0_new w (n := 20) (by omega) (by omega)).mono ?_
    rintro r w1 ⟨db, rfl, o1, g1⟩
    refine ⟨db, rfl, ?_⟩
    refine (g1.openNew hT (by omega) (ps_new (by omega) (by omega)) rfl rfl).mono ?_
    rintro r w2 ⟨sb, rfl, o2, jb2, D2, J2, g2, hl2, hr2⟩
    have e20 : (newD 20).now.length = 20 := by simp [newD]
    rw [e20] at hl2 hr2
    rw [hsize20] at hr2
    refine ⟨sb, rfl, fun m => ?_⟩
    refine ((g2.below (balloc (Below.refl _ _) _)).append (by omega) (rd_oneM w2 97 5 m (by omega)) (by simp)).mono ?_
    rintro r w3 ⟨kd, rfl, hcs⟩
    have p1 : partsN ([97] : List Int).length = 1 := by decide
    rcases hcs with ⟨rfl, _, o3, D3, g3, hl3, _⟩ | ⟨_, hr, _⟩
    · refine ⟨rfl, fun m => ?_⟩
      refine ((g3.below (balloc (Below.refl _ _) _)).compact hT (by omega) (by rw [p1]; omega) (rd_oneM w3 120 5 m (by omega)) (by simp)).mono ?_
      rintro r w4 ⟨kd, rfl, hcs⟩
      have p2 : partsN ([120] : List Int).length = 1 := by decide
      rw [hl3, hl2, hsize20] at hcs
      rcases hcs with ⟨rfl, _, o4, D4, jb4, J4, g4, hl4, hr4, _⟩ | ⟨_, hr, _⟩
      · refine ⟨rfl, fun m => ?_⟩
        refine ((g4.below (balloc (Below.refl _ _) _)).append (by rw [p1, p2]; omega) (rd_oneM w4 98 5 m (by omega)) (by simp)).mono ?_
        rintro r w5 ⟨kd, rfl, hcs⟩
        have p3 : partsN ([98] : List Int).length = 1 := by decide
        rcases hcs with ⟨rfl, _, o5, D5, g5, hl5, _⟩ | ⟨_, hr, _⟩
        · refine ⟨rfl, ?_⟩
          refine (g5.open hT).mono ?_
          rintro r w6 ⟨v0, v1, sb2, rfl, h0, ⟨qs, h1, h2⟩, hb⟩
          obtain ⟨q, rfl⟩ := one_of h2
          exact ⟨v0, v1, sb2, rfl, h0, ⟨q, h1⟩, hb⟩
        · rw [p3] at hr
          rw [p2] at hr4
          omega
      · rw [p2] at hr
        omega
    · rw [p1] at hr
      omega
  go_enter Tryd.func6, Tryd.ntmps6
  go_wp2_with fail
  refine HC.out.mono ?_
  rintro r w1 ⟨db, rfl, HC1⟩
  go_wp2_with fail
  refine HC1.mono ?_
  rintro r w2 ⟨sb, rfl, HC2⟩
  clear HC1
  go_wp2_with fail
  refine (HC2 _).mono ?_
  rintro r w3 ⟨rfl, HC3⟩
  clear HC2
  go_wp2_with fail
  refine (HC3 _).mono ?_
  rintro r w4 ⟨rfl, HC4⟩
  clear HC3
  go_wp2_with fail
  refine (HC4 _).mono ?_
  rintro r w5 ⟨rfl, HC5⟩
  clear HC4
  go_wp2_with fail
  refine HC5.mono ?_
  rintro r w6 ⟨v0, v1, sb2, rfl, h0, ⟨q, h1⟩, hb⟩
  clear HC5 kc
  obtain ⟨a0, c0, hv0⟩ := h0.len
  rw [show ([120] : List Int).length = 1 from rfl] at hv0
  subst hv0
  obtain ⟨a1, c1, hv1⟩ := h1.len
  rw [show [(q, ([98] : List Int))].length = 1 from rfl] at hv1
  subst hv1
  have hc1 := h1.row.caps
  obtain ⟨lb, lo, ha1, hl1⟩ := h1.at (i := 0) rfl
  subst ha1
  have hq := h1.rd _ (List.mem_singleton.2 rfl)
  simp only at hq hl1
  obtain ⟨a6, c6, hv6⟩ := hq.len
  rw [show ([98] : List Int).length = 1 from rfl] at hv6
  subst hv6
  rw [Nat.add_zero] at hl1
  have kr := run_convert_rd (P := Tryd.prog) w6 30 9 5 Tryd.underlying30 Tryd.underlying5 Tryd.underlying9 _ _ h0
  have kr2 := run_convert_rd (P := Tryd.prog) w6 30 9 5 Tryd.underlying30 Tryd.underlying5 Tryd.underlying9 _ _ hq
  have HB : Hid (Below w.heap.size w w6) := hb
  have hcap1 : 1 ≤ c1 := hc1.2.1
  have hcap2 : c1 ≤ 9223372036854775807 := hc1.2.2
  have hse : ((strOfNums [120]).toList == [120]) = true := by decide +kernel
  have hse2 : ((strOfNums [98]).toList == [98]) = true := by decide +kernel
  clear h0 h1 hb hc1 hq
  go_wp2
  go_ret
  exact ⟨rfl, HB.out⟩
end Go.Proofs.YtkcighejmjgalaaDoor
