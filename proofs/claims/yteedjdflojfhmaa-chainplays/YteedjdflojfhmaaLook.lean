/-
  New, Len, Head, At; entries in new memory (copies, All).
  Entries in new memory: copies, All; At.
-/
import Derived.Test.YteedjdflojfhmaaAdd
import Derived.Laws.MakeOwn
namespace Go.Proofs.Yteedjdflojfhmaa
section
set_option linter.unusedVariables false
set_option linter.unusedSimpArgs false
set_option synthInstance.maxSize 20000
set_option maxHeartbeats 2000000
set_option maxRecDepth 20000
open Go.RowKit Go.Maps

theorem log_new {w : World} {o : Nat → Nat} (j b : Nat) (W p : Int) (hW : I64 W) (hp : U64 p) : LogIs (w.alloc (.cells #[ptr b, .int .i64 W, .int .u64 p, .slice none 0 0, .int .u64 0] 91)) (newTo o w j) j w.heap.size b W p ⟨[], 0⟩ :=
  ⟨.slice none 0 0, [], blk_new w [ptr b, .int .i64 W, .int .u64 p, .slice none 0 0, .int .u64 0] 91, newTo_new (Nat.le_refl _), World.ownsRow_nil _ _ _ _, (fun k hk => by simp [Value.ownBlock] at hk), Ents.nil _ _, (fun q hq => by cases hq), rfl, by simp, by show U64 0; unfold U64; omega, hp, hW⟩

theorem newL_world (w : World) (b : Nat) (W p : Int) (h0 : 0 ≤ W) (h7 : W < 8) : Calls Try.prog 14 #[ptr b, .int .i64 W, .int .u64 p] w fun r w' => r = .returned (.tuple #[ptr w.heap.size, .int .i64 0]) ∧ w' = w.alloc (.cells #[ptr b, .int .i64 W, .int .u64 p, .slice none 0 0, .int .u64 0] 91) := by
  have h1 : ¬ W < 0 := by omega
  have h2 : ¬ 8 ≤ W := by omega
  clear h0 h7
  go_enter Try.func14, Try.ntmps14
  go_wp2
  go_ret2
  exact ⟨rfl, rfl⟩
theorem newL_ok (w : World) (o : Nat → Nat) (j b : Nat) (W p : Int) (h0 : 0 ≤ W) (h7 : W < 8) (hp : U64 p) :
    Calls Try.prog 14 #[ptr b, .int .i64 W, .int .u64 p] w fun r w' => r = .returned (.tuple #[ptr w.heap.size, .int .i64 0]) ∧ LogIs w' (newTo o w j) j w.heap.size b W p ⟨[], 0⟩ ∧ Below w.heap.size w w' := by
  have HL : Hid (LogIs (w.alloc (.cells #[ptr b, .int .i64 W, .int .u64 p, .slice none 0 0, .int .u64 0] 91)) (newTo o w j) j w.heap.size b W p ⟨[], 0⟩) := log_new j b W p (by unfold I64; omega) hp
  have h1 : ¬ W < 0 := by omega
  have h2 : ¬ 8 ≤ W := by omega
  clear h0 h7 hp
  go_enter Try.func14, Try.ntmps14
  go_wp2
  go_ret2
  exact ⟨rfl, HL.out, balloc (Below.refl _ _) _⟩
theorem newL_bad (w : World) (v : Value) (W p : Int) (h : W < 0 ∨ 8 ≤ W) : Calls Try.prog 14 #[v, .int .i64 W, .int .u64 p] w fun r w' => r = .returned (.tuple #[.pointer none, .int .i64 1]) ∧ w' = w := by
  by_cases h1 : W < 0
  · clear h
    go_enter Try.func14, Try.ntmps14
    go_wp2
    go_ret2
    exact ⟨rfl, rfl⟩
  · have h2 : 8 ≤ W := by omega
    clear h
    go_enter Try.func14, Try.ntmps14
    go_wp2
    go_ret2
    exact ⟨rfl, rfl⟩
theorem newL_nil (w : World) (p : Int) : Calls Try.prog 14 #[.pointer none, .int .i64 1, .int .u64 p] w fun r w' => r = .returned (.tuple #[.pointer none, .int .i64 23]) ∧ w' = w := by
  go_enter Try.func14, Try.ntmps14
  go_wp2
  go_ret2
  exact ⟨rfl, rfl⟩

theorem writerL_nil (w : World) : Calls Try.prog 31 #[.pointer none] w fun r w' => r = .returned (.int .i64 (-1)) ∧ w' = w := by
  go_enter Try.func31, Try.ntmps31
  go_wp2
  go_ret
  exact ⟨rfl, rfl⟩
theorem lenL_nil (w : World) : Calls Try.prog 32 #[.pointer none] w fun r w' => r = .returned (.int .i64 0) ∧ w' = w := by
  go_enter Try.func32, Try.ntmps32
  go_wp2
  go_ret
  exact ⟨rfl, rfl⟩
theorem lenL_any {w : World} {o : Nat → Nat} {j la b : Nat} {W p : Int} {L : Lg} (hL : LogIs w o j la b W p L) : Calls Try.prog 32 #[ptr la] w fun r w' => r = .returned (.int .i64 (L.es.length : Int)) ∧ w' = w := by
  obtain ⟨v, ps, hA⟩ := hL
  obtain ⟨av, cv', rfl⟩ := hA.rowE.len
  rw [hA.len]
  have c3 := hA.blk.cell 3 _ rfl
  clear hA
  go_enter Try.func32, Try.ntmps32
  go_wp2
  go_ret
  exact ⟨rfl, rfl⟩

theorem grown_set3 (w : World) (c : Nat) (u0 u1 u2 : Value) : w.grownBy (((w.setCell ⟨c, 0, none⟩ u0).setCell ⟨c, 1, none⟩ u1).setCell ⟨c, 2, none⟩ u2) (some c) := by
  iterate 2 refine grown_trans ?_ (grown_setCell _ _ _ _) (fun k hk => .inl hk)
  exact grown_setCell _ _ _ _
def hdV (W : Int) (L : Lg) : Value := .agg #[.int .i64 W, .int .i64 (L.es.length : Int), .int .u64 L.sum]
theorem headL_nil (w : World) : Calls Try.prog 33 #[.pointer none] w fun r w' => r = .returned (.agg #[.int .i64 0, .int .i64 0, .int .u64 0]) ∧ Below w.heap.size w w' := by
  go_enter Try.func33, Try.ntmps33
  go_wp2
  refine bodyPost_ret (v := .agg #[.int .i64 0, .int .i64 0, .int .u64 0]) ?_ rfl ⟨rfl, ?_⟩
  · rw [results_cell1 rfl]
    go_simp
  · exact balloc (Below.refl _ _) _
theorem headL_any {w : World} {o : Nat → Nat} {j la b : Nat} {W p : Int} {L : Lg} (hL : LogIs w o j la b W p L) : Calls Try.prog 33 #[ptr la] w fun r w' => r = .returned (hdV W L) ∧ Below w.heap.size w w' := by
  obtain ⟨v, ps, hA⟩ := hL
  obtain ⟨av, cv', rfl⟩ := hA.rowE.len
  unfold hdV
  rw [hA.len]
  have HL0 : Hid (Blk w la 91 [ptr b, .int .i64 W, .int .u64 p, .slice av ps.length cv', .int .u64 L.sum]) := hA.blk
  clear hA
  generalize L.sum = sum at *
  obtain ⟨w1, hw1⟩ : ∃ w1, w1 = w.alloc (.cells #[.int .i64 0, .int .i64 0, .int .u64 0] 69) := ⟨_, rfl⟩
  have HB1 : Hid (Below w.heap.size w w1) := by show Below _ _ _; rw [hw1]; exact balloc (Below.refl _ _) _
  have HX1 : Hid (Blk w1 w.heap.size 69 [.int .i64 0, .int .i64 0, .int .u64 0]) := by show Blk _ _ _ _; rw [hw1]; exact blk_new w [.int .i64 0, .int .i64 0, .int .u64 0] 69
  have HL1 : Hid (Blk w1 la 91 [ptr b, .int .i64 W, .int .u64 p, .slice av ps.length cv', .int .u64 sum]) := (show Blk _ _ _ _ from HL0.out.below HB1.out)
  go_enter Try.func33, Try.ntmps33
  go_upto_region 3 with fail
  rw [← hw1]
  obtain ⟨n, hn⟩ : ∃ n, n = w.heap.size := ⟨_, rfl⟩
  rw [← hn] at HX1 ⊢
  have HNl : Hid (la ≠ n) := (show la ≠ n from by have := HL0.out.lt; omega)
  have HN : Hid (n = w.heap.size) := hn
  clear hw1 hn
  have l0 := fun z : WIn (fun w' => Blk w' la 91 [ptr b, .int .i64 W, .int .u64 p, .slice av ps.length cv', .int .u64 sum]) => z.ok.cell 1 _ rfl
  have l1 := fun z : WIn (fun w' => Blk w' la 91 [ptr b, .int .i64 W, .int .u64 p, .slice av ps.length cv', .int .u64 sum]) => z.ok.cell 3 _ rfl
  have l2 := fun z : WIn (fun w' => Blk w' la 91 [ptr b, .int .i64 W, .int .u64 p, .slice av ps.length cv', .int .u64 sum]) => z.ok.cell 4 _ rfl
  have ne : Nonempty (WIn (fun w' => Blk w' la 91 [ptr b, .int .i64 W, .int .u64 p, .slice av ps.length cv', .int .u64 sum])) := ⟨⟨w1, HL1.out⟩⟩
  refine wp_region_ord (C := fun w' => ∃ z : WIn (fun w' => Blk w' la 91 [ptr b, .int .i64 W, .int .u64 p, .slice av ps.length cv', .int .u64 sum]), w' = z.w) [(false, 0), (false, 1), (false, 2), (false, 3), (false, 4), (false, 5), (false, 6), (false, 7), (false, 8), (false, 9), (false, 10), (false, 11), (false, 12), (false, 13), (true, 14)] (by kernel_rfl) (by kernel_rfl) ⟨⟨w1.drew, HL1.out⟩, rfl⟩ ?_
  iterate 14 (refine ord_still rfl rfl ?_; go_big_quiet_step (fail); refine wpQuiet_nil ?_)
  have m0 := HX1.out.cell 0 _ rfl; have m1 := HX1.out.cell 1 _ rfl; have m2 := HX1.out.cell 2 _ rfl; have f0 := HX1.out.frozen 0; have f1 := HX1.out.frozen 1; have f2 := HX1.out.frozen 2
  refine ord_mem rfl rfl ?_
  go_simp
  have G1 := grown_set3 w1.drew n (.int .i64 W) (.int .i64 (ps.length : Int)) (.int .u64 sum)
  refine ⟨⟨⟨_, by first | exact (HL1.out : Blk w1.drew _ _ _).past G1 HNl.out | exact HL1.out.past (grown_undrew G1) HNl.out⟩, rfl⟩, ?_⟩
  refine ord_end ?_
  clear l0 l1 l2 ne
  go_wp2
  refine bodyPost_ret (v := .agg #[.int .i64 W, .int .i64 (ps.length : Int), .int .u64 sum]) ?_ rfl ⟨rfl, ?_⟩
  · rw [results_cell1 rfl]
    go_simp
  · first | exact bgrown HB1.out (by have := HN.out; omega) (grown_undrew G1) | exact (bgrown HB1.out (by have := HN.out; omega) (grown_set3 _ _ _ _ _)).drew
end

section
set_option linter.unusedVariables false
set_option linter.unusedSimpArgs false
set_option synthInstance.maxSize 20000
set_option maxHeartbeats 2000000
set_option maxRecDepth 20000
open Go.RowKit Go.Maps

def zq : Ent × Value := (zeroE, .slice none 0 0)
def set8 (xs : List Value) (n : Nat) (u0 u1 u2 u3 u4 u5 u6 u7 : Value) : List Value := (((((((xs.set n u0).set (n + 1) u1).set (n + 2) u2).set (n + 3) u3).set (n + 4) u4).set (n + 5) u5).set (n + 6) u6).set (n + 7) u7
theorem set8_right (A B : List Value) (n : Nat) (u0 u1 u2 u3 u4 u5 u6 u7 : Value) (h : A.length ≤ n) : set8 (A ++ B) n u0 u1 u2 u3 u4 u5 u6 u7 = A ++ set8 B (n - A.length) u0 u1 u2 u3 u4 u5 u6 u7 := by
  unfold set8
  rw [List.set_append_right _ _ h, List.set_append_right _ _ (by omega), List.set_append_right _ _ (by omega), List.set_append_right _ _ (by omega), List.set_append_right _ _ (by omega), List.set_append_right _ _ (by omega), List.set_append_right _ _ (by omega), List.set_append_right _ _ (by omega)]
  rw [show n + 1 - A.length = n - A.length + 1 by omega, show n + 2 - A.length = n - A.length + 2 by omega, show n + 3 - A.length = n - A.length + 3 by omega, show n + 4 - A.length = n - A.length + 4 by omega, show n + 5 - A.length = n - A.length + 5 by omega, show n + 6 - A.length = n - A.length + 6 by omega, show n + 7 - A.length = n - A.length + 7 by omega]
theorem flatE_set (ps : List (Ent × Value)) (i : Nat) (e : Ent) (y : Value) (hi : i < ps.length) : set8 (flatE ps) (i * 8) (.int .i64 e.w) (.int .i64 e.i) (.int .u64 e.p) (.int .i64 e.t) (.int .i64 e.u) (.int .i64 e.n) y (.int .u64 e.g) = flatE (ps.set i (e, y)) := by
  induction ps generalizing i with
  | nil => simp at hi
  | cons q ps ih =>
    cases i with
    | zero =>
      unfold flatE
      rw [List.flatMap_cons, List.set_cons_zero, List.flatMap_cons]
      rfl
    | succ i =>
      have := ih i (by simpa using hi)
      unfold flatE at *
      rw [List.flatMap_cons, List.set_cons_succ, List.flatMap_cons, ← this, set8_right _ _ _ _ _ _ _ _ _ _ _ (by show 8 ≤ _; omega)]
      rw [show (i + 1) * 8 - (ec q.1 q.2).length = i * 8 by show (i + 1) * 8 - 8 = _; omega]

theorem made_ents (n : Nat) : (madeCells (Value.agg #[.int .i64 0, .int .i64 0, .int .u64 0, .int .i64 0, .int .i64 0, .int .i64 0, .slice none 0 0, .int .u64 0]).cells (n * 8)).toList = flatE (List.replicate n zq) := by
  apply List.ext_getElem?
  intro k
  by_cases hk : k < n * 8
  · have h1 : (flatE (List.replicate n zq))[k / 8 * 8 + k % 8]? = (ec zq.1 zq.2)[k % 8]? := by
      have hlt : k % 8 < (ec zq.1 zq.2).length := by show _ < 8; omega
      rw [List.getElem?_eq_getElem hlt]
      exact flatE_at (q := zq) (by rw [List.getElem?_replicate, if_pos (by omega)]) _ _ (List.getElem?_eq_getElem hlt)
    rw [show k / 8 * 8 + k % 8 = k by omega] at h1
    rw [h1]
    have h2 : k % 8 < 8 := by omega
    simp [madeCells, hk, Value.cells, zq, zeroE, ec]
    generalize k % 8 = r at *
    match r, h2 with
    | 0, _ => rfl
    | 1, _ => rfl
    | 2, _ => rfl
    | 3, _ => rfl
    | 4, _ => rfl
    | 5, _ => rfl
    | 6, _ => rfl
    | 7, _ => rfl
  · rw [List.getElem?_eq_none (by simp [madeCells]; omega), List.getElem?_eq_none (by rw [flatE_length, List.length_replicate]; omega)]

theorem make_ents (w : World) (n : Nat) (hn : n ≤ 100000) : (Instr.makeSlice 40 (.int .i64 (n : Int)) (.int .i64 (n : Int))).run Try.prog w = .ok (.slice (some ⟨w.heap.size, 0, none⟩) n n) (w.alloc (.cells (flatE (List.replicate n zq)).toArray 47)) := by
  obtain ⟨i, hi, hz, hs1, hs2⟩ := infoE
  have h := run_make (P := Try.prog) w 40 47 i _ Try.underlying40 hi hz .i64 .i64 n n (by omega) (Int.le_refl _) (by rw [hs2]; omega) (by omega)
  rw [h, hs1, ← made_ents]
  simp

/-- Eight stores into a row of one's own. -/
theorem row_set8 {w : World} {g cap : Nat} {ps : List (Ent × Value)} (h : w.ownsRow 0 47 8 (.slice (some ⟨g, 0, none⟩) ps.length cap) ps.length (flatE ps)) {i : Nat} (hi : i < ps.length) (e : Ent) (y : Value) :
    let w' := ((((((((w.setCell ⟨g, i * 8, none⟩ (.int .i64 e.w)).setCell ⟨g, i * 8 + 1, none⟩ (.int .i64 e.i)).setCell ⟨g, i * 8 + 2, none⟩ (.int .u64 e.p)).setCell ⟨g, i * 8 + 3, none⟩ (.int .i64 e.t)).setCell ⟨g, i * 8 + 4, none⟩ (.int .i64 e.u)).setCell ⟨g, i * 8 + 5, none⟩ (.int .i64 e.n)).setCell ⟨g, i * 8 + 6, none⟩ y).setCell ⟨g, i * 8 + 7, none⟩ (.int .u64 e.g))
    w'.ownsRow 0 47 8 (.slice (some ⟨g, 0, none⟩) (ps.set i (e, y)).length cap) (ps.set i (e, y)).length (flatE (ps.set i (e, y))) ∧ w.grownBy w' (some g) := by
  have s0 := h.stored (i * 8) (.int .i64 e.w)
  have s1 := s0.1.stored (i * 8 + 1) (.int .i64 e.i)
  have s2 := s1.1.stored (i * 8 + 2) (.int .u64 e.p)
  have s3 := s2.1.stored (i * 8 + 3) (.int .i64 e.t)
  have s4 := s3.1.stored (i * 8 + 4) (.int .i64 e.u)
  have s5 := s4.1.stored (i * 8 + 5) (.int .i64 e.n)
  have s6 := s5.1.stored (i * 8 + 6) y
  have s7 := s6.1.stored (i * 8 + 7) (.int .u64 e.g)
  refine ⟨?_, ?_⟩
  · rw [List.length_set, ← flatE_set ps i e y hi]
    exact s7.1
  · exact grown_trans (grown_trans (grown_trans (grown_trans (grown_trans (grown_trans (grown_trans s0.2 s1.2 (fun k hk => .inl hk)) s2.2 (fun k hk => .inl hk)) s3.2 (fun k hk => .inl hk)) s4.2 (fun k hk => .inl hk)) s5.2 (fun k hk => .inl hk)) s6.2 (fun k hk => .inl hk)) s7.2 (fun k hk => .inl hk)
theorem row_cell {w : World} {g cap n : Nat} {ps : List (Ent × Value)} (h : w.ownsRow 0 47 8 (.slice (some ⟨g, 0, none⟩) n cap) n (flatE ps)) {i : Nat} {q : Ent × Value} (hi : ps[i]? = some q) (hn : n = ps.length) (j : Nat) (u : Value) (hj : (ec q.1 q.2)[j]? = some u) : w.cell? ⟨g, i * 8 + j, none⟩ = some u := by
  subst hn
  have hlt : i < ps.length := (List.getElem?_eq_some_iff.1 hi).1
  have hj8 : j < 8 := (List.getElem?_eq_some_iff.1 hj).1
  rw [h.cellAt (i * 8 + j) (by omega)]
  exact flatE_at hi j u hj

theorem copies_any {w : World} {o : Nat → Nat} {v : Value} {ps : List (Ent × Value)} (hv : RowE w v ps) (hE : Ents w o ps) (hn : ps.length ≤ 1000) (hl : ∀ q ∈ ps, q.1.b.length ≤ 90000) :
    Calls Try.prog 39 #[v] w fun r w' => ∃ v' ps', r = .returned v' ∧ ps'.map (·.1) = ps.map (·.1) ∧ RowE w' v' ps' ∧ Ents w' (newTo o w 0) ps' ∧ Below w.heap.size w w' ∧ (∀ k, v'.ownBlock = some k → w.heap.size ≤ k) := by
  obtain ⟨a, cap, rfl⟩ := hv.len
  have hcap := hv.cap
  have HV : Hid (RowE w (.slice a ps.length cap) ps) := hv
  have HE : Hid (Ents w o ps) := hE
  have HS : Hid (∀ q ∈ ps, q.1.b.length ≤ 90000) := hl
  have kmk := make_ents w ps.length (by omega)
  have hfz : Hid (Blk (w.alloc (.cells (flatE (List.replicate ps.length zq)).toArray 47)) w.heap.size 47 (flatE (List.replicate ps.length zq))) := blk_new w _ 47
  have HR0 : Hid ((w.alloc (.cells (flatE (List.replicate ps.length zq)).toArray 47)).ownsRow 0 47 8 (.slice (some ⟨w.heap.size, 0, none⟩) ps.length ps.length) ps.length (flatE (List.replicate ps.length zq))) := by
    show World.ownsRow _ _ _ _ _ _ _
    have := World.ownsRow_lit (base := 0) (e := 47) (size := 8) w (flatE (List.replicate ps.length zq)).toArray ps.length (Nat.zero_le _) (by unfold maxLen; omega) (by simp [flatE_length])
    simpa using this
  clear hv hE hl hfz
  obtain ⟨w1, hw1⟩ : ∃ w1, w1 = w.alloc (.cells (flatE (List.replicate ps.length zq)).toArray 47) := ⟨_, rfl⟩
  rw [← hw1] at HR0 kmk
  have HB1 : Hid (Below w.heap.size w w1) := by show Below _ _ _; rw [hw1]; exact balloc (Below.refl _ _) _
  clear hw1
  obtain ⟨g, hg⟩ : ∃ g, g = w.heap.size := ⟨_, rfl⟩
  rw [← hg] at HR0 kmk
  have HG : Hid (g = w.heap.size) := hg
  clear hg
  go_enter Try.func39, Try.ntmps39
  go_wp2
  clear kmk
  go_loopw [11] (fun i wr => ∃ (k : Nat) (qs : List (Ent × Value)), i = .int .i64 k ∧ k ≤ ps.length ∧ Hid (qs.length = ps.length ∧ ∀ i q, i < k → ps[i]? = some q → ∃ y, qs[i]? = some (q.1, y) ∧ Kp0 wr (fun k => if k = g then 7 else newTo o w 0 k) y q.1.b) ∧ Hid (wr.ownsRow 0 47 8 (.slice (some ⟨g, 0, none⟩) ps.length ps.length) ps.length (flatE qs)) ∧ Hid (Below w.heap.size w wr)) (fun i _ => ps.length - (intOf i).toNat)
  case atStart => exact ⟨0, List.replicate ps.length zq, rfl, by omega, ⟨by simp, fun i q h => by omega⟩, HR0, HB1⟩
  case round =>
    obtain ⟨k, qs, rfl, hk, HQ, HR, HB⟩ := hrel
    by_cases hk8 : k < ps.length
    · obtain ⟨q, hq⟩ : ∃ q, ps[k]? = some q := ⟨_, List.getElem?_eq_getElem hk8⟩
      obtain ⟨b, off, ea, hc⟩ := (HV.out.below HB.out).at hq
      subst ea
      have hmem := List.mem_of_getElem? hq
      have HY : Hid (Kp0 wr (newTo o w 0) q.2 q.1.b) := (HE.out q hmem).2.mv (Mv.of_below (I := []) 0 HB.out) (by simp)
      have HSq := HS.out q hmem
      have CP := fun w' (h : Rd w' q.2 q.1.b) => copied_any w' q.1 q.2 h (by omega)
      have HQe : Hid (ps[k]? = some q) := hq
      obtain ⟨e, x⟩ := q
      dsimp only at *
      obtain ⟨ax, cx, hxx⟩ := HY.out.1.len
      subst hxx
      obtain ⟨ew, ei, ep, et, eu, en, eb, eg⟩ := e
      unfold ec at hc
      unfold ev at CP
      dsimp only at *
      have HCP : Hid (∀ w', Rd w' (.slice ax eb.length cx) eb → Calls Try.prog 56 #[.agg #[.int .i64 ew, .int .i64 ei, .int .u64 ep, .int .i64 et, .int .i64 eu, .int .i64 en, .slice ax eb.length cx, .int .u64 eg]] w' fun r w'' => ∃ y, r = .returned (.agg #[.int .i64 ew, .int .i64 ei, .int .u64 ep, .int .i64 et, .int .i64 eu, .int .i64 en, y, .int .u64 eg]) ∧ Own w'.heap.size 5 w'' y eb ∧ Below w'.heap.size w' w'') := CP
      have d0 := hc 0 _ rfl
      have d1 := hc 1 _ rfl
      have d2 := hc 2 _ rfl
      have d3 := hc 3 _ rfl
      have d4 := hc 4 _ rfl
      have d5 := hc 5 _ rfl
      have d6 := hc 6 _ rfl
      have d7 := hc 7 _ rfl
      simp only [Nat.add_zero] at d0
      clear hc hq CP
      obtain ⟨q0, hq0⟩ : ∃ q0, qs[k]? = some q0 := ⟨_, List.getElem?_eq_getElem (by rw [HQ.out.1]; exact hk8)⟩
      have HQ0 : Hid (qs[k]? = some q0) := hq0
      clear hq0
      go_wp2_with (go_at_call 56; go_must (refine (HCP.out _ (HY.out.1.below (balloc (Below.refl _ _) _))).mono ?_; rintro r w2 ⟨y, rfl, ho2, hb2⟩; obtain ⟨ay, cy, hyy⟩ := ho2.rd.len; subst hyy; have R2 := ownsRow_block HR.out (fun k' hk' => (bnext (balloc (Below.refl _ _) (.cells #[.int .i64 ew, .int .i64 ei, .int .u64 ep, .int .i64 et, .int .i64 eu, .int .i64 en, .slice ax eb.length cx, .int .u64 eg] 47)) hb2).block k' (HR.out.lt k' hk').2); have z0 := row_cell R2 HQ0.out HQ.out.1.symm 0 _ rfl; have z1 := row_cell R2 HQ0.out HQ.out.1.symm 1 _ rfl; have z2 := row_cell R2 HQ0.out HQ.out.1.symm 2 _ rfl; have z3 := row_cell R2 HQ0.out HQ.out.1.symm 3 _ rfl; have z4 := row_cell R2 HQ0.out HQ.out.1.symm 4 _ rfl; have z5 := row_cell R2 HQ0.out HQ.out.1.symm 5 _ rfl; have z6 := row_cell R2 HQ0.out HQ.out.1.symm 6 _ rfl; have z7 := row_cell R2 HQ0.out HQ.out.1.symm 7 _ rfl; simp only [Nat.add_zero] at z0; have f0 := R2.frozenAt (k * 8); have f1 := R2.frozenAt (k * 8 + 1); have f2 := R2.frozenAt (k * 8 + 2); have f3 := R2.frozenAt (k * 8 + 3); have f4 := R2.frozenAt (k * 8 + 4); have f5 := R2.frozenAt (k * 8 + 5); have f6 := R2.frozenAt (k * 8 + 6); have f7 := R2.frozenAt (k * 8 + 7)))
      have hqk : k < qs.length := by rw [HQ.out.1]; exact hk8
      have R2' : w2.ownsRow 0 47 8 (.slice (some ⟨g, 0, none⟩) qs.length ps.length) qs.length (flatE qs) := by rw [HQ.out.1]; exact R2
      have HS8 := row_set8 R2' hqk ⟨ew, ei, ep, et, eu, en, eb, eg⟩ (.slice ay eb.length cy)
      dsimp only at HS8
      rw [List.length_set, HQ.out.1] at HS8
      have HB2 : Below w.heap.size w w2 := bnext (bnext HB.out (balloc (Below.refl _ _) (.cells #[.int .i64 ew, .int .i64 ei, .int .u64 ep, .int .i64 et, .int .i64 eu, .int .i64 en, .slice ax eb.length cx, .int .u64 eg] 47))) hb2
      have HB3 := bgrown HB2 (by have := HG.out; omega) HS8.2
      have hgk : (newTo o w 0) g = 0 := newTo_new (by have := HG.out; omega)
      go_roundw
      case rel =>
        refine ⟨k + 1, qs.set k (⟨ew, ei, ep, et, eu, en, eb, eg⟩, .slice ay eb.length cy), by go_num, by omega, ⟨by rw [List.length_set]; exact HQ.out.1, fun i q hi hqi => ?_⟩, HS8.1, HB3⟩
        have past : ∀ (yv : Value) (lv : List Int), Kp0 w2 (fun k => if k = g then 7 else newTo o w 0 k) yv lv → Kp0 _ (fun k => if k = g then 7 else newTo o w 0 k) yv lv := fun yv lv h => ⟨h.1.blocks (fun hl k' hk' hlt => HS8.2.block k' hlt (fun e => by
          have h1 := h.2 hl k' hk'
          have h2 := Option.some.inj e
          subst h2
          simp at h1)), h.2⟩
        by_cases hik : i = k
        · subst hik
          rw [HQe.out] at hqi
          cases hqi
          refine ⟨_, by rw [List.getElem?_set_self hqk], past _ _ ⟨ho2.rd, fun _ k' hk' => ?_⟩⟩
          have h1 := (ho2.2.lt k' hk').1
          have h2 := (HR.out.lt g rfl).2
          have h3 := HB.out.size
          simp at h1
          show (if k' = g then 7 else newTo o w 0 k') = 0
          rw [if_neg (by omega)]
          exact newTo_new (by omega)
        · obtain ⟨y, h1, h2⟩ := HQ.out.2 i q (by omega) hqi
          exact ⟨y, by rw [List.getElem?_set_ne (fun e => hik e.symm)]; exact h1, past _ _ ⟨h2.1.below (bnext (balloc (Below.refl _ _) _) hb2), h2.2⟩⟩
      case measure => simp [intOf]; omega
    · obtain rfl : k = ps.length := by omega
      go_wp2
      go_ret
      have hlq : ps.length = qs.length := HQ.out.1.symm
      refine ⟨_, qs, rfl, ?_, ?_, ?_, HB.out, ?_⟩
      · apply List.ext_getElem?
        intro i
        rw [List.getElem?_map, List.getElem?_map]
        by_cases hi : i < ps.length
        · obtain ⟨q, hq⟩ : ∃ q, ps[i]? = some q := ⟨_, List.getElem?_eq_getElem hi⟩
          obtain ⟨y, h1, _⟩ := HQ.out.2 i q hi hq
          rw [h1, hq]
          rfl
        · rw [List.getElem?_eq_none (by omega), List.getElem?_eq_none (by omega)]
      · have := HR.out
        rw [hlq] at this
        have h2 := rowE_own this
        rw [hlq]
        exact h2
      · intro q' hq'
        obtain ⟨i, hi⟩ := List.mem_iff_getElem?.1 hq'
        have hlt : i < ps.length := by have := (List.getElem?_eq_some_iff.1 hi).1; omega
        obtain ⟨q, hq⟩ : ∃ q, ps[i]? = some q := ⟨_, List.getElem?_eq_getElem hlt⟩
        obtain ⟨y, h1, h2⟩ := HQ.out.2 i q hlt hq
        rw [hi] at h1
        cases h1
        refine ⟨(HE.out q (List.mem_of_getElem? hq)).1, h2.1, fun hl k' hk' => ?_⟩
        have h3 := h2.2 hl k' hk'
        dsimp only at h3
        by_cases e : k' = g
        · rw [if_pos e] at h3; omega
        · rwa [if_neg e] at h3
      · intro k' hk'
        simp [Value.ownBlock] at hk'
        have := HG.out
        omega

theorem allL_any {w : World} {o : Nat → Nat} {j la b : Nat} {W p : Int} {L : Lg} (hL : LogIs w o j la b W p L) :
    Calls Try.prog 35 #[ptr la] w fun r w' => ∃ v' ps', r = .returned v' ∧ ps'.map (·.1) = L.es ∧ RowE w' v' ps' ∧ Ents w' (newTo o w 0) ps' ∧ Below w.heap.size w w' ∧ (∀ k, v'.ownBlock = some k → w.heap.size ≤ k) := by
  obtain ⟨v, ps, hA⟩ := hL
  have CP := copies_any hA.rowE hA.ents (by have := hA.few; omega) (fun q hq => by have := hA.short q hq; omega)
  rw [hA.es] at CP
  obtain ⟨av, cv', rfl⟩ := hA.rowE.len
  have HCP : Hid (Calls Try.prog 39 #[.slice av ps.length cv'] w fun r w' => ∃ v' ps', r = .returned v' ∧ ps'.map (·.1) = L.es ∧ RowE w' v' ps' ∧ Ents w' (newTo o w 0) ps' ∧ Below w.heap.size w w' ∧ (∀ k, v'.ownBlock = some k → w.heap.size ≤ k)) := CP
  have c3 := hA.blk.cell 3 _ rfl
  clear hA CP
  go_enter Try.func35, Try.ntmps35
  go_wp2_with (go_at_call 39; go_must (refine HCP.out.mono ?_; rintro r w2 ⟨v', ps', rfl, h1, h2, h3, h4, h5⟩; obtain ⟨a2, c2, hv2⟩ := h2.len; subst hv2))
  go_ret
  exact ⟨_, ps', rfl, h1, h2, h3, h4, h5⟩

theorem atL_nil (w : World) (i : Int) : Calls Try.prog 29 #[.pointer none, .int .i64 i] w fun r w' => r = .returned (.tuple #[ev zeroE (.slice none 0 0), .int .i64 23]) ∧ Below w.heap.size w w' := by
  unfold ev zeroE
  go_enter Try.func29, Try.ntmps29
  go_wp2
  refine bodyPost_ret (v := .tuple #[.agg #[.int .i64 0, .int .i64 0, .int .u64 0, .int .i64 0, .int .i64 0, .int .i64 0, .slice none 0 0, .int .u64 0], .int .i64 23]) ?_ rfl ⟨rfl, ?_⟩
  · rw [results_cell_tmp rfl]
    go_simp
  · exact balloc (Below.refl _ _) _
theorem atL_out {w : World} {o : Nat → Nat} {j la b : Nat} {W p : Int} {L : Lg} (hL : LogIs w o j la b W p L) (i : Int) (hi : i < 0 ∨ (L.es.length : Int) ≤ i) : Calls Try.prog 29 #[ptr la, .int .i64 i] w fun r w' => r = .returned (.tuple #[ev zeroE (.slice none 0 0), .int .i64 2]) ∧ Below w.heap.size w w' := by
  obtain ⟨v, ps, hA⟩ := hL
  obtain ⟨av, cv', rfl⟩ := hA.rowE.len
  rw [hA.len] at hi
  have c3 := (hA.blk.alloc (.cells #[.int .i64 0, .int .i64 0, .int .u64 0, .int .i64 0, .int .i64 0, .int .i64 0, .slice none 0 0, .int .u64 0] 47)).cell 3 _ rfl
  clear hA
  unfold ev zeroE
  by_cases h0 : i < 0
  · clear hi
    go_enter Try.func29, Try.ntmps29
    go_wp2
    refine bodyPost_ret (v := .tuple #[.agg #[.int .i64 0, .int .i64 0, .int .u64 0, .int .i64 0, .int .i64 0, .int .i64 0, .slice none 0 0, .int .u64 0], .int .i64 2]) ?_ rfl ⟨rfl, ?_⟩
    · rw [results_cell_tmp rfl]
      go_simp
    · exact balloc (Below.refl _ _) _
  · have h1 : (ps.length : Int) ≤ i := by omega
    clear hi
    go_enter Try.func29, Try.ntmps29
    go_wp2
    refine bodyPost_ret (v := .tuple #[.agg #[.int .i64 0, .int .i64 0, .int .u64 0, .int .i64 0, .int .i64 0, .int .i64 0, .slice none 0 0, .int .u64 0], .int .i64 2]) ?_ rfl ⟨rfl, ?_⟩
    · rw [results_cell_tmp rfl]
      go_simp
    · exact balloc (Below.refl _ _) _
theorem atL_in {w : World} {o : Nat → Nat} {j la b : Nat} {W p : Int} {L : Lg} (hL : LogIs w o j la b W p L) (i : Nat) (e : Ent) (he : L.es[i]? = some e) :
    Calls Try.prog 29 #[ptr la, .int .i64 (i : Int)] w fun r w' => ∃ y, r = .returned (.tuple #[ev e y, .int .i64 0]) ∧ Kp0 w' (newTo o w 0) y e.b ∧ Below w.heap.size w w' := by
  obtain ⟨v, ps, hA⟩ := hL
  have hrow := hA.rowE
  obtain ⟨av, cv', rfl⟩ := hrow.len
  have hcap := hrow.cap
  have hfew := hA.few
  obtain ⟨x, hq⟩ : ∃ x, ps[i]? = some (e, x) := by
    rw [hA.at] at he
    obtain ⟨q, hq, rfl⟩ := Option.map_eq_some_iff.1 he
    exact ⟨q.2, hq⟩
  have hilt : (i : Int) < ps.length := by have := (List.getElem?_eq_some_iff.1 hq).1; omega
  obtain ⟨g, off, rfl, hc⟩ := hrow.at hq
  have HX : Hid (Rd w x e.b) := (hA.ents _ (List.mem_of_getElem? hq)).2.1
  have CP := fun w' (h : Rd w' x e.b) => copied_any w' e x h (by have := hA.short _ (List.mem_of_getElem? hq); dsimp only at this; omega)
  have c3 := (hA.blk.alloc (.cells #[.int .i64 0, .int .i64 0, .int .u64 0, .int .i64 0, .int .i64 0, .int .i64 0, .slice none 0 0, .int .u64 0] 47)).cell 3 _ rfl
  have HCC : Hid (∀ ob, ∀ k u, (ec e x)[k]? = some u → (w.alloc ob).cell? ⟨g, off + i * 8 + k, none⟩ = some u) := fun ob k u hu => by
    have h1 := hc k u hu
    have h2 : g < w.heap.size := World.block_lt_of_cell? w _ h1
    rw [World.cell?_of_block ((balloc (Below.refl w.heap.size w) ob).block g h2)]
    exact h1
  have hc' := HCC.out (.cells #[.int .i64 0, .int .i64 0, .int .u64 0, .int .i64 0, .int .i64 0, .int .i64 0, .slice none 0 0, .int .u64 0] 47)
  have hnn : ¬ (i : Int) < 0 := by omega
  have hng : ¬ (ps.length : Int) ≤ i := by omega
  clear hA he hc hq hrow HCC
  obtain ⟨ax, cx, rfl⟩ := HX.out.len
  obtain ⟨ew, ei, ep, et, eu, en, eb, eg⟩ := e
  unfold ev at CP ⊢
  unfold ec at hc'
  dsimp only at *
  have HCP : Hid (∀ w', Rd w' (.slice ax eb.length cx) eb → Calls Try.prog 56 #[.agg #[.int .i64 ew, .int .i64 ei, .int .u64 ep, .int .i64 et, .int .i64 eu, .int .i64 en, .slice ax eb.length cx, .int .u64 eg]] w' fun r w'' => ∃ y, r = .returned (.agg #[.int .i64 ew, .int .i64 ei, .int .u64 ep, .int .i64 et, .int .i64 eu, .int .i64 en, y, .int .u64 eg]) ∧ Own w'.heap.size 5 w'' y eb ∧ Below w'.heap.size w' w'') := CP
  have d0 := hc' 0 _ rfl
  have d1 := hc' 1 _ rfl
  have d2 := hc' 2 _ rfl
  have d3 := hc' 3 _ rfl
  have d4 := hc' 4 _ rfl
  have d5 := hc' 5 _ rfl
  have d6 := hc' 6 _ rfl
  have d7 := hc' 7 _ rfl
  simp only [Nat.add_zero] at d0
  have HZ : Hid (∀ w', Below (w.alloc (.cells #[.int .i64 0, .int .i64 0, .int .u64 0, .int .i64 0, .int .i64 0, .int .i64 0, .slice none 0 0, .int .u64 0] 47)).heap.size (w.alloc (.cells #[.int .i64 0, .int .i64 0, .int .u64 0, .int .i64 0, .int .i64 0, .int .i64 0, .slice none 0 0, .int .u64 0] 47)) w' → Blk w' w.heap.size 47 [.int .i64 0, .int .i64 0, .int .u64 0, .int .i64 0, .int .i64 0, .int .i64 0, .slice none 0 0, .int .u64 0]) := fun w' h => (blk_new w [.int .i64 0, .int .i64 0, .int .u64 0, .int .i64 0, .int .i64 0, .int .i64 0, .slice none 0 0, .int .u64 0] 47).below h
  clear CP hc'
  go_enter Try.func29, Try.ntmps29
  go_wp2_with (go_at_call 56; go_must (refine (HCP.out _ (HX.out.below (balloc (Below.refl _ _) _))).mono ?_; rintro r w2 ⟨y, rfl, ho2, hb2⟩; obtain ⟨ay, cy, hyy⟩ := ho2.rd.len; subst hyy; have Z := HZ.out w2 hb2; have z0 := Z.cell 0 _ rfl; have z1 := Z.cell 1 _ rfl; have z2 := Z.cell 2 _ rfl; have z3 := Z.cell 3 _ rfl; have z4 := Z.cell 4 _ rfl; have z5 := Z.cell 5 _ rfl; have z6 := Z.cell 6 _ rfl; have z7 := Z.cell 7 _ rfl; have f0 := Z.frozen 0; have f1 := Z.frozen 1; have f2 := Z.frozen 2; have f3 := Z.frozen 3; have f4 := Z.frozen 4; have f5 := Z.frozen 5; have f6 := Z.frozen 6; have f7 := Z.frozen 7))
  have G2 := grown_set8 w2 w.heap.size (.int .i64 ew) (.int .i64 ei) (.int .u64 ep) (.int .i64 et) (.int .i64 eu) (.int .i64 en) (.slice ay eb.length cy) (.int .u64 eg)
  refine bodyPost_ret (v := .tuple #[.agg #[.int .i64 ew, .int .i64 ei, .int .u64 ep, .int .i64 et, .int .i64 eu, .int .i64 en, .slice ay eb.length cy, .int .u64 eg], .int .i64 0]) ?_ rfl ⟨_, rfl, ?_, ?_⟩
  · rw [results_cell_tmp rfl]
    go_simp
  · have ho3 := own_past ho2 (by simp) G2
    exact ⟨ho3.rd, fun _ k hk => newTo_new (by have := (ho3.2.lt k hk).1; simp at this; omega)⟩
  · exact bgrown (bnext (balloc (Below.refl _ _) _) hb2) (Nat.le_refl _) G2
end
end Go.Proofs.Yteedjdflojfhmaa
