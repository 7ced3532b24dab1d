/-
  The document's New, Find, May, who.
-/
import Derived.Test.YtgoghmabhdkdjaaAlv
import Derived.Test.YtgoghmabhdkdjaaPurA
namespace Go.Proofs.Ytgoghmabhdkdjaa
set_option linter.unusedVariables false
set_option linter.unusedSimpArgs false
set_option synthInstance.maxSize 20000
set_option maxHeartbeats 2000000
set_option maxRecDepth 20000
open Go.RowKit Go.Maps

theorem rnew11 (p : Int) (w : World) : Calls Try.prog 11 #[.int .u64 p] w fun r w' => ∃ v, r = .returned (stv v (-1)) ∧ RowF mc w' v [⟨0, p, 0, -1, 0⟩] ∧ Below w.heap.size w w' := by
  have HR : Hid (∀ w' : World, RowF mc (w'.alloc (.cells #[.int .i64 0, .int .u64 p, .int .i64 0, .int .i64 (-1), .int .i64 0] 54)) (.slice (some ⟨w'.heap.size, 0, none⟩) 1 1) [(⟨0, p, 0, -1, 0⟩ : Mb)]) := fun w' => rowF_one w' (⟨0, p, 0, -1, 0⟩ : Mb) 54
  go_enter Try.func11, Try.ntmps11
  go_wp2
  refine bodyPost_ret (v := stv (.slice (some ⟨w.heap.size + 1, 0, none⟩) 1 1) (-1)) ?_ rfl ⟨_, rfl, ?_, ?_⟩
  · rw [results_cell1 rfl]
    unfold stv
    go_simp
  · have := HR.out (w.alloc (.cells #[.slice (some ⟨w.heap.size + 1, 0, none⟩) 1 1, .int .i64 (-1)] 32))
    simp only [World.size_alloc] at this
    exact this
  · exact balloc2 _ _ _
theorem findM_hit {l : List Mb} {k : Nat} {x : Mb} {who : Int} (h : findM (l.take k) who = none) (hx : l[k]? = some x) (hw : x.w = who) : findM l who = some x := by
  have hk := List.getElem?_eq_some_iff.1 hx
  have e : l = l.take k ++ x :: l.drop (k + 1) := by
    have h1 := (List.take_append_drop k l).symm
    rw [List.drop_eq_getElem_cons hk.1, hk.2] at h1
    exact h1
  unfold findM at h ⊢
  rw [e, List.find?_append, h]
  simp [atW_iff.2 hw]
theorem findM_miss {l : List Mb} {k : Nat} {x : Mb} {who : Int} (h : findM (l.take k) who = none) (hx : l[k]? = some x) (hw : x.w ≠ who) : findM (l.take (k + 1)) who = none := by
  have hk := List.getElem?_eq_some_iff.1 hx
  unfold findM at h ⊢
  rw [List.take_succ_eq_append_getElem hk.1, List.find?_append, h, hk.2]
  have : atW who x = false := by unfold atW; simp [hw]
  simp [this]
theorem rfind18 {w : World} {v : Value} {l : List Mb} (hv : RowF mc w v l) (who e : Int) : Calls Try.prog 18 #[stv v e, .int .i64 who] w fun r w' => r = .returned (.tuple #[mv ((findM l who).getD zm), .bool (findM l who).isSome]) ∧ Below w.heap.size w w' := by
  obtain ⟨av, cap, rfl⟩ := hv.len
  have hcap := hv.caps
  have hc1 : l.length ≤ cap := hcap.2.1
  have hc2 : cap ≤ 9223372036854775807 := hcap.2.2
  obtain ⟨n, hn⟩ : ∃ n, n = l.length := ⟨_, rfl⟩
  have HN : Hid (n = l.length) := hn
  rw [← hn] at hc1 hv ⊢
  obtain ⟨w1, hw1⟩ : ∃ w1, w1 = (w.alloc (.cells #[.slice av n cap, .int .i64 e] 32)).alloc (.cells #[.int .i64 0, .int .u64 0, .int .i64 0, .int .i64 0, .int .i64 0] 54) := ⟨_, rfl⟩
  have hb1 : Below w.heap.size w w1 := by rw [hw1]; exact balloc2 _ _ _
  have HB1 : Hid (Below w.heap.size w w1) := hb1
  have X0 : Blk w1 w.heap.size 32 [.slice av n cap, .int .i64 e] := by rw [hw1]; exact blk2_0 w [.slice av n cap, .int .i64 e] [.int .i64 0, .int .u64 0, .int .i64 0, .int .i64 0, .int .i64 0] 32 54
  have X1 : Blk w1 (w.heap.size + 1) 54 [.int .i64 0, .int .u64 0, .int .i64 0, .int .i64 0, .int .i64 0] := by rw [hw1]; exact blk2_1 w [.slice av n cap, .int .i64 e] [.int .i64 0, .int .u64 0, .int .i64 0, .int .i64 0, .int .i64 0] 32 54
  have HV : Hid (RowF mc w1 (.slice av n cap) l) := (show RowF _ _ _ _ from hv.below hb1)
  have HW1 : Hid (w1 = (w.alloc (.cells #[.slice av n cap, .int .i64 e] 32)).alloc (.cells #[.int .i64 0, .int .u64 0, .int .i64 0, .int .i64 0, .int .i64 0] 54)) := hw1
  have x0 := X0.cell 0 _ rfl
  have j0 := X1.cell 0 _ rfl; have j1 := X1.cell 1 _ rfl; have j2 := X1.cell 2 _ rfl; have j3 := X1.cell 3 _ rfl; have j4 := X1.cell 4 _ rfl
  have i0 := X1.frozen 0; have i1 := X1.frozen 1; have i2 := X1.frozen 2; have i3 := X1.frozen 3; have i4 := X1.frozen 4
  have HPb : Hid (∀ v0 v1 v2 v3 v4, Below w.heap.size w (put5 w1 (w.heap.size + 1) v0 v1 v2 v3 v4)) := fun v0 v1 v2 v3 v4 => put5_below hb1 (by omega)
  clear hv hcap hn hw1 hb1 X0 X1
  unfold stv
  go_enter Try.func18, Try.ntmps18
  go_upto_region 1 with fail
  rw [← HW1.out]
  go_wp2
  go_loopw [6] (fun i wr => ∃ k : Nat, i = .int .i64 k ∧ k ≤ n ∧ Hid (w1 = wr ∧ findM (l.take k) who = none)) (fun i _ => n - (intOf i).toNat)
  case atStart => exact ⟨0, rfl, by omega, rfl, rfl⟩
  case round =>
    obtain ⟨k, rfl, hk, HI⟩ := hrel
    have hww := HI.out.1
    have HF : Hid (findM (l.take k) who = none) := HI.out.2
    subst hww
    clear HI
    by_cases hki : k < n
    · obtain ⟨x, hx⟩ : ∃ x, l[k]? = some x := ⟨_, List.getElem?_eq_getElem (by have := HN.out; omega)⟩
      obtain ⟨b, off, ea, hc⟩ := HV.out.at mc_len hx
      subst ea
      have c0 := hc 0 _ rfl; have c1 := hc 1 _ rfl; have c2 := hc 2 _ rfl; have c3 := hc 3 _ rfl; have c4 := hc 4 _ rfl
      simp only [Nat.add_zero] at c0
      by_cases hxw : x.w = who
      · have HR : Hid (findM l who = some x) := findM_hit HF.out hx hxw
        obtain ⟨y0, y1, y2, y3, y4⟩ := x
        dsimp only at hxw c0 c1 c2 c3 c4
        subst hxw
        clear hc hx HF
        go_wp2
        refine bodyPost_ret (v := .tuple #[mv ⟨y0, y1, y2, y3, y4⟩, .bool true]) ?_ rfl ⟨by rw [HR.out]; rfl, HPb.out _ _ _ _ _⟩
        rw [results_cell_tmp rfl]
        unfold mv
        go_simp
      · have HR : Hid (True ∧ findM (l.take (k + 1)) who = none) := ⟨trivial, findM_miss HF.out hx hxw⟩
        obtain ⟨y0, y1, y2, y3, y4⟩ := x
        dsimp only at hxw c0 c1 c2 c3 c4
        clear hc hx
        go_wp2
        go_roundw
        case rel => exact ⟨k + 1, by go_num, by omega, HR⟩
        case measure => simp [intOf]; omega
    · have HR : Hid (findM l who = none) := (show _ = _ by
        have := HF.out
        rwa [List.take_of_length_le (by have := HN.out; omega)] at this)
      go_wp2
      refine bodyPost_ret (v := .tuple #[mv zm, .bool false]) ?_ rfl ⟨by rw [HR.out]; rfl, HPb.out _ _ _ _ _⟩
      rw [results_cell_tmp rfl]
      unfold mv zm
      go_simp
/-- May, as the document's answer has it. -/
def mayR (S : Sm) (who i e : Int) : Int := match findM S.l who with
  | none => 20
  | some m => if e = -1 ∧ who = 0 then 0 else if S.e < e then 7 else if e < 0 ∨ e < m.f ∨ (m.t ≠ -1 ∧ (m.t < e ∨ m.l ≤ i)) then 10 else 0
/-- No member counts from an epoch below 0 on. -/
def FOk (S : Sm) : Prop := ∀ m ∈ S.l, 0 ≤ m.f
theorem fok_new (p : Int) : FOk ⟨[⟨0, p, 0, -1, 0⟩], -1⟩ := fun m hm => by simp at hm; subst hm; simp
theorem FOk.apply {S : Sm} {c : Cg} (hs : MOk S) (hf : FOk S) (h : (applyM S c).2 = 0) : FOk (applyM S c).1 := by
  rcases apply_cases h with ⟨hk, h1, h2, h3⟩ | ⟨hk, h1, m, h2, h4, h3⟩ | ⟨hk, h1, h2, h4, h3⟩ <;> rw [h3]
  · intro y hy
    rcases (insL_mem _ _ _).1 hy with rfl | hy
    · have := hs.e
      unfold EOk at this
      simp [newM]
      omega
    · exact hf y hy
  · intro y hy
    rcases setW_mem hy with hy | ⟨x, hx, _, rfl⟩
    · exact hf y hy
    · exact hf x hx
  · exact hf
theorem mayR_eq {S : Sm} (hs : MOk S) (hf : FOk S) (who i e : Int) : mayR S who i e = mayM S who i e := by
  have he := hs.e
  unfold EOk at he
  unfold mayR mayM
  cases hh : findM S.l who with
  | none => rfl
  | some m =>
    have h0 := hf m (findM_some hh).1
    simp only
    by_cases h1 : e = -1
    · subst h1
      by_cases h2 : who = 0
      · simp [h2]
      · simp [h2]
        omega
    · simp only [h1, false_and, if_false]
      by_cases h3 : S.e < e
      · simp [h3]
      · simp only [h3, if_false]
        unfold countsM
        by_cases h4 : m.f ≤ e ∧ (m.t = -1 ∨ (e ≤ m.t ∧ i < m.l))
        · rw [decide_eq_true h4, if_neg (by omega)]; simp
        · rw [decide_eq_false h4, if_pos (by omega)]; simp
theorem rwho58 (n : Int) (w : World) : Calls Try.prog 58 #[.int .i64 n] w fun r w' => r = .returned (.bool (whoB n)) ∧ w' = w := by
  have hw : whoB n = decide (0 ≤ n ∧ n ≤ 7) := rfl
  by_cases h1 : 0 ≤ n
  · by_cases h2 : n < 8
    · have : whoB n = true := by rw [hw]; exact decide_eq_true (by omega)
      rw [this]
      go_enter Try.func58, Try.ntmps58
      go_wp2
      go_ret
      exact ⟨rfl, rfl⟩
    · have : whoB n = false := by rw [hw]; exact decide_eq_false (by omega)
      rw [this]
      go_enter Try.func58, Try.ntmps58
      go_wp2
      go_ret
      exact ⟨rfl, rfl⟩
  · have : whoB n = false := by rw [hw]; exact decide_eq_false (by omega)
    rw [this]
    go_enter Try.func58, Try.ntmps58
    go_wp2
    go_ret
    exact ⟨rfl, rfl⟩
end Go.Proofs.Ytgoghmabhdkdjaa
