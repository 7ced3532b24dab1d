/-
  A variable that holds a state; what is asked of the chapter's example.
-/
import Derived.Test.YtgoghmabhdkdjaaLgt
import Derived.Test.YtgoghmabhdkdjaaSam
namespace Go.Proofs.Ytgoghmabhdkdjaa
set_option linter.unusedVariables false
set_option linter.unusedSimpArgs false
set_option synthInstance.maxSize 20000
set_option maxHeartbeats 2000000
set_option maxRecDepth 20000
open Go.RowKit Go.Maps

/-- Rows of members stay, whatever is written into a block that holds no number of a key. -/
theorem rowM_set {w : World} {v : Value} {l : List Mb} {b : Nat} {t : TypeId} {vs : List Value} (h : RowF mc w v l) (hb : Blk w b t vs) (hn : ∀ (i : Nat) (p : Int), vs[i]? ≠ some (Value.int .u64 p)) (i : Nat) (u : Value) : RowF mc (w.setCell ⟨b, i, none⟩ u) v l := by
  by_cases hp : 0 < l.length
  · refine h.blocks fun j hj _ => ?_
    obtain ⟨a, cap, rfl, h1, h2, h3, h4⟩ := h
    obtain ⟨b', off, rfl, hc⟩ := h4 hp
    cases hj
    have hne : b' ≠ b := fun e => by
      subst e
      obtain ⟨m, hm⟩ : ∃ m, l[0]? = some m := ⟨_, List.getElem?_eq_getElem hp⟩
      have h5 := hc (0 * 5 + 1) (.int .u64 m.p) (flat_at mc_len hm 1 _ rfl)
      have h6 : (0 * 5 + 1 : Nat) = 1 := rfl
      rw [h6] at h5
      have h7 := hb
      unfold Blk at h7
      rw [World.cell?] at h5
      simp [h7] at h5
      exact hn (off + 1) m.p h5
    exact Below.heap_setCell _ _ _ _ hne
  · have : l = [] := List.eq_nil_of_length_eq_zero (by omega)
    subst this
    obtain ⟨a, cap, rfl, h1, h2, h3, h4⟩ := h
    exact ⟨a, cap, rfl, h1, h2, h3, fun h => by simp at h⟩
/-- The variable of block b (of type t) holds this state. -/
structure VarAt (w : World) (b : Nat) (t : TypeId) (lv : Value) (S : Sm) : Prop where
  blk : Blk w b t [lv, .int .i64 S.e]
  row : RowF mc w lv S.l
theorem VarAt.below {w w' : World} {b : Nat} {t : TypeId} {lv : Value} {S : Sm} (h : VarAt w b t lv S) (hb : Below w.heap.size w w') : VarAt w' b t lv S := ⟨h.blk.below hb, h.row.below hb⟩
theorem VarAt.clear {w : World} {b : Nat} {t : TypeId} {lv : Value} {S : Sm} (h : VarAt w b t lv S) : ∀ (i : Nat) (p : Int), [lv, Value.int .i64 S.e][i]? ≠ some (Value.int .u64 p) := fun i p => by
  obtain ⟨a, c, rfl⟩ := h.row.len
  match i with
  | 0 => simp
  | 1 => simp
  | i + 2 => simp
/-- What is behind the store of a state. -/
def putS (w : World) (b : Nat) (v : Value) (e : Int) : World := (w.setCell ⟨b, 0, none⟩ v).setCell ⟨b, 1, none⟩ (.int .i64 e)
theorem putS_row {w : World} {b : Nat} {t : TypeId} {lv v u : Value} {S : Sm} {l l' : List Mb} {e : Int} (h : VarAt w b t lv S) (hv : RowF mc w v l) (hu : RowF mc w u l') : RowF mc (putS w b v e) u l' := by
  have h1 := rowM_set hu h.blk h.clear 0 v
  have h2 : Blk (w.setCell ⟨b, 0, none⟩ v) b t [v, .int .i64 S.e] := h.blk.set 0 v
  refine rowM_set h1 h2 (fun i p => ?_) 1 _
  obtain ⟨a, c, rfl⟩ := hv.len
  match i with
  | 0 => simp
  | 1 => simp
  | i + 2 => simp
theorem putS_at {w : World} {b : Nat} {t : TypeId} {lv v : Value} {S : Sm} {l : List Mb} {e : Int} (h : VarAt w b t lv S) (hv : RowF mc w v l) : VarAt (putS w b v e) b t v ⟨l, e⟩ :=
  ⟨(h.blk.set 0 v).set 1 (.int .i64 e), putS_row h hv hv⟩
theorem putS_other {w : World} {b c : Nat} {t : TypeId} {v : Value} {e : Int} {vs : List Value} (h : Blk w c t vs) (hne : c ≠ b) : Blk (putS w b v e) c t vs := (h.other _ _ hne).other _ _ hne
theorem putS_below {w0 w : World} {b : Nat} {v : Value} {e : Int} (h : Below w0.heap.size w0 w) (hb : w0.heap.size ≤ b) : Below w0.heap.size w0 (putS w b v e) := (h.setCell hb _).setCell hb _
theorem putS_size (w : World) (b : Nat) (v : Value) (e : Int) : (putS w b v e).heap.size = w.heap.size := by unfold putS; simp
theorem var_new {w : World} {lv : Value} {S : Sm} (t : TypeId) (h : RowF mc w lv S.l) : VarAt (w.alloc (.cells #[lv, .int .i64 S.e] t)) w.heap.size t lv S := ⟨blk_new w [lv, .int .i64 S.e] t, h.below (balloc (Below.refl _ _) _)⟩
/-- A new variable that holds a state, made behind the world W. -/
structure ApV (W w : World) (tb : Nat) (v : Value) (S : Sm) : Prop where
  var : VarAt w tb 28 v S
  tb : W.heap.size ≤ tb
  bel : Below W.heap.size W w
theorem apv_new {W w : World} {v : Value} {S : Sm} (h : RowF mc w v S.l) (hb : Below W.heap.size W w) : ApV W (w.alloc (.cells #[v, .int .i64 S.e] 28)) w.heap.size v S := ⟨var_new 28 h, hb.size, balloc hb _⟩
theorem apv_put {W w : World} {tb : Nat} {lv v : Value} {S0 S : Sm} (hv : VarAt w tb 28 lv S0) (h : RowF mc w v S.l) (hb : Below W.heap.size W w) (ht : W.heap.size ≤ tb) : ApV W (putS w tb v S.e) tb v S := ⟨putS_at hv h, ht, putS_below hb ht⟩
/-- What is behind the store of a member. -/
def put5 (w : World) (b : Nat) (v0 v1 v2 v3 v4 : Value) : World := ((((w.setCell ⟨b, 0, none⟩ v0).setCell ⟨b, 1, none⟩ v1).setCell ⟨b, 2, none⟩ v2).setCell ⟨b, 3, none⟩ v3).setCell ⟨b, 4, none⟩ v4
theorem put5_blk {w : World} {b : Nat} {t : TypeId} {u0 u1 u2 u3 u4 v0 v1 v2 v3 v4 : Value} (h : Blk w b t [u0, u1, u2, u3, u4]) : Blk (put5 w b v0 v1 v2 v3 v4) b t [v0, v1, v2, v3, v4] := ((((h.set 0 v0).set 1 v1).set 2 v2).set 3 v3).set 4 v4
theorem put5_below {w0 w : World} {b : Nat} {v0 v1 v2 v3 v4 : Value} (h : Below w0.heap.size w0 w) (hb : w0.heap.size ≤ b) : Below w0.heap.size w0 (put5 w b v0 v1 v2 v3 v4) := ((((h.setCell hb _).setCell hb _).setCell hb _).setCell hb _).setCell hb _
def m0 : Mb := ⟨0, 5, 0, -1, 0⟩
def m1 : Mb := ⟨1, 6, 1, -1, 0⟩
def c0 : Cg := ⟨3, 0, 0, 0, [⟨0, List.replicate 16 0⟩], []⟩
def c1 : Cg := ⟨1, 1, 6, 0, [], []⟩
theorem alive_1 : applyM ⟨[m0], -1⟩ c0 = (⟨[m0], 0⟩, 0) := by kernel_rfl
theorem alive_2 : applyM ⟨[m0], 0⟩ c1 = (⟨[m0, m1], 0⟩, 0) := by kernel_rfl
theorem alive_3 : mayM ⟨[m0, m1], 0⟩ 1 0 0 = 10 := by kernel_rfl
theorem alive_4 : mayM ⟨[m0, m1], 0⟩ 1 0 1 = 7 := by kernel_rfl
theorem alive_5 : mayM ⟨[m0, m1], 0⟩ 0 3 0 = 0 := by kernel_rfl
theorem cg_c0 (w : World) : CgAt ((w.alloc (.cells (cs8 (List.replicate 16 0)).toArray 5)).alloc (.cells #[.int .i64 0, .slice (some ⟨w.heap.size, 0, none⟩) 16 16] 81)) c0 (.slice (some ⟨w.heap.size + 1, 0, none⟩) 1 1) (.slice none 0 0) [(⟨0, List.replicate 16 0⟩, .slice (some ⟨w.heap.size, 0, none⟩) 16 16)] := by
  have h1 := (own_made w 5 16 16 (by omega) (by unfold maxLen; omega)).rd
  have h2 := rowF_one (f := wq) (w.alloc (.cells (cs8 (List.replicate 16 0)).toArray 5)) ((⟨0, List.replicate 16 0⟩ : Wp), Value.slice (some ⟨w.heap.size, 0, none⟩) 16 16) 81
  rw [World.size_alloc] at h2
  refine ⟨h2, fun q hq => ?_, fun q hq => ?_, rfl, rd_nil _, ?_, ?_, ?_, ?_⟩
  · simp at hq
    subst hq
    exact h1.below (balloc (Below.refl _ _) _)
  · simp at hq
    subst hq
    unfold I64; simp
  all_goals (unfold c0; simp [I64, U64])
theorem cg_c1 (w : World) : CgAt w c1 (.slice none 0 0) (.slice none 0 0) [] := by
  refine ⟨rowF_nil w, fun q hq => by simp at hq, fun q hq => by simp at hq, rfl, rd_nil _, ?_, ?_, ?_, ?_⟩
  all_goals (unfold c1; simp [I64, U64])
theorem alive9 (w : World) : Calls Try.prog 9 #[] w fun r w' => r = .returned (.bool true) ∧ Below w.heap.size w w' := by
  have HN : Hid (Calls Try.prog 10 #[.int .u64 5] w fun r w' => ∃ a q, r = .returned (.agg #[.slice a 1 q, .int .i64 (-1)]) ∧ RowF mc w' (.slice a 1 q) [m0] ∧ Below w.heap.size w w') := (show Calls _ _ _ _ _ from by
    refine (new10 5 w).mono ?_
    rintro r w' ⟨v, rfl, hr, hb⟩
    obtain ⟨a, q, rfl⟩ := hr.len
    exact ⟨a, q, rfl, hr, hb⟩)
  go_enter Try.func9, Try.ntmps9
  go_upto_region 2 with (go_at_call 10; go_must (refine HN.out.mono ?_; rintro r w1 ⟨a1, q1, rfl, hr1, hb1⟩))
  have HV2 : Hid (VarAt (w1.alloc (.cells #[.slice a1 1 q1, .int .i64 (-1)] 28)) w1.heap.size 28 (.slice a1 1 q1) ⟨[m0], -1⟩) := var_new (S := ⟨[m0], -1⟩) 28 hr1
  have HB2 : Hid (Below w.heap.size w (w1.alloc (.cells #[.slice a1 1 q1, .int .i64 (-1)] 28))) := balloc hb1 _
  obtain ⟨sb, hsb⟩ : ∃ sb, sb = w1.heap.size := ⟨_, rfl⟩
  have HSb : Hid (w.heap.size ≤ sb) := (show _ ≤ _ by rw [hsb]; exact hb1.size)
  rw [← hsb] at HV2 ⊢
  generalize w1.alloc (.cells #[.slice a1 1 q1, .int .i64 (-1)] 28) = w2 at *
  clear hr1 hb1 hsb HN
  have HA : Hid (Calls Try.prog 13 #[.agg #[.slice a1 1 q1, .int .i64 (-1)], .agg #[.int .i64 3, .int .i64 0, .int .u64 0, .int .i64 0, .slice (some ⟨w2.heap.size + 1, 0, none⟩) 1 1, .slice none 0 0]] ((w2.drew.alloc (.cells (cs8 (List.replicate 16 0)).toArray 5)).alloc (.cells #[.int .i64 0, .slice (some ⟨w2.heap.size, 0, none⟩) 16 16] 81)) fun r w' => ∃ a q, r = .returned (.tuple #[.agg #[.slice a 1 q, .int .i64 0], .int .i64 0]) ∧ VarAt w' sb 28 (.slice a1 1 q1) ⟨[m0], -1⟩ ∧ RowF mc w' (.slice a 1 q) [m0] ∧ Below w.heap.size w w') := (show Calls _ _ _ _ _ from by
    have hb : Below w2.heap.size w2 ((w2.drew.alloc (.cells (cs8 (List.replicate 16 0)).toArray 5)).alloc (.cells #[.int .i64 0, .slice (some ⟨w2.heap.size, 0, none⟩) 16 16] 81)) := bnext (w := w2.drew) (Below.refl _ _).drew (balloc2 w2.drew _ _)
    have h1 := apply13 (S := ⟨[m0], -1⟩) (HV2.out.row.below hb) (by simp) (by unfold EOk; simp) (cg_c0 w2.drew)
    rw [alive_1] at h1
    refine h1.mono ?_
    rintro r w' ⟨v, rfl, hr, hb'⟩
    obtain ⟨a, q, rfl⟩ := hr.len
    exact ⟨a, q, rfl, (HV2.out.below hb).below hb', hr, bnext (bnext HB2.out hb) hb'⟩)
  have x0 := HV2.out.blk.cell 0 _ rfl; have x1 := HV2.out.blk.cell 1 _ rfl
  have y0 := (HV2.out.blk.alloc (.cells (cs8 ([0, 0, 0, 0, 0, 0, 0, 0, 0, 0, 0, 0, 0, 0, 0, 0])).toArray 5)).cell 0 _ rfl; have y1 := (HV2.out.blk.alloc (.cells (cs8 ([0, 0, 0, 0, 0, 0, 0, 0, 0, 0, 0, 0, 0, 0, 0, 0])).toArray 5)).cell 1 _ rfl
  have z0 := ((HV2.out.blk.alloc (.cells (cs8 ([0, 0, 0, 0, 0, 0, 0, 0, 0, 0, 0, 0, 0, 0, 0, 0])).toArray 5)).alloc (.cells #[.int .i64 0, .slice (some ⟨w2.heap.size, 0, none⟩) 16 16] 81)).cell 0 _ rfl; have z1 := ((HV2.out.blk.alloc (.cells (cs8 ([0, 0, 0, 0, 0, 0, 0, 0, 0, 0, 0, 0, 0, 0, 0, 0])).toArray 5)).alloc (.cells #[.int .i64 0, .slice (some ⟨w2.heap.size, 0, none⟩) 16 16] 81)).cell 1 _ rfl
  go_cut [2] (fun iv wx => iv = .int .i64 0 ∧ ∃ (va : Option Addr) (q : Nat), Hid (VarAt wx sb 28 (.slice va 1 q) ⟨[m0], 0⟩ ∧ Below w.heap.size w wx))
  case first =>
    refine wp_region_tree (C := fun w' => ∃ z : WIn (fun _ => True), w' = z.w) (.two 0 (.one 1 (.still 2 (.one 3 (.still 4 (.one 5 (.still 6 (.still 7 (.still 8 (.one 9 (.still 10 .done)))))))))) 1 (.still 2 (.two 0 (.one 3 (.still 4 (.one 5 (.still 6 (.still 7 (.still 8 (.one 9 (.still 10 .done)))))))) 3 (.still 4 (.one 0 (.one 5 (.still 6 (.still 7 (.still 8 (.one 9 (.still 10 .done))))))))))) (by kernel_rfl) (by kernel_rfl) ⟨⟨w2.drew, trivial⟩, rfl⟩ ?_
    have ne : Nonempty (WIn (fun _ => True)) := ⟨⟨w2, trivial⟩⟩
    refine tree_two rfl rfl rfl rfl ?_ ?_
    · go_simp
      refine ⟨⟨⟨_, trivial⟩, rfl⟩, ?_⟩
      go_simp
      refine tree_one rfl rfl ?_
      refine wp_of_list rfl ?_
      refine wpList_make_bytes 36 5 byteTy rfl _ _ rfl .i64 .i64 16 16 16 16 rfl rfl rfl rfl (by omega) (by omega) ?_
      refine ⟨rfl, ⟨⟨_, trivial⟩, rfl⟩, ?_⟩
      go_simp
      refine tree_still rfl rfl ?_; go_big_quiet_step (fail); refine wpQuiet_nil ?_
      refine tree_one rfl rfl ?_
      go_simp
      refine ⟨⟨⟨_, trivial⟩, rfl⟩, ?_⟩
      go_simp
      refine tree_still rfl rfl ?_; go_big_quiet_step (fail); refine wpQuiet_nil ?_
      refine tree_one rfl rfl ?_
      go_simp
      refine HA.out.mono ?_
      rintro r w5 ⟨a5, q5, rfl, hv5, hr5, hb5⟩
      have HP5 : Hid (VarAt (putS w5 sb (.slice a5 1 q5) 0) sb 28 (.slice a5 1 q5) ⟨[m0], 0⟩ ∧ Below w.heap.size w (putS w5 sb (.slice a5 1 q5) 0)) := ⟨putS_at (e := 0) hv5 hr5, putS_below hb5 HSb.out⟩
      have k0 := hv5.blk.cell 0 _ rfl; have k1 := hv5.blk.cell 1 _ rfl; have f0 := hv5.blk.frozen 0; have f1 := hv5.blk.frozen 1
      clear hv5 hr5 hb5
      refine ⟨⟨⟨_, trivial⟩, rfl⟩, ?_⟩
      go_simp
      iterate 3 (refine tree_still rfl rfl ?_; go_big_quiet_step (fail); refine wpQuiet_nil ?_)
      refine tree_one rfl rfl ?_
      go_simp
      refine ⟨⟨⟨_, trivial⟩, rfl⟩, ?_⟩
      go_simp
      refine tree_still rfl rfl ?_; go_big_quiet_step (fail); refine wpQuiet_nil ?_
      refine tree_done ?_
      go_wp2
      go_meet
      exact ⟨rfl, a5, q5, HP5⟩
    · refine wp_of_list rfl ?_
      refine wpList_make_bytes 36 5 byteTy rfl _ _ rfl .i64 .i64 16 16 16 16 rfl rfl rfl rfl (by omega) (by omega) ?_
      refine ⟨rfl, ⟨⟨_, trivial⟩, rfl⟩, ?_⟩
      go_simp
      refine tree_still rfl rfl ?_; go_big_quiet_step (fail); refine wpQuiet_nil ?_
      refine tree_two rfl rfl rfl rfl ?_ ?_
      · go_simp
        refine ⟨⟨⟨_, trivial⟩, rfl⟩, ?_⟩
        go_simp
        refine tree_one rfl rfl ?_
        go_simp
        refine ⟨⟨⟨_, trivial⟩, rfl⟩, ?_⟩
        go_simp
        refine tree_still rfl rfl ?_; go_big_quiet_step (fail); refine wpQuiet_nil ?_
        refine tree_one rfl rfl ?_
        go_simp
        refine HA.out.mono ?_
        rintro r w5 ⟨a5, q5, rfl, hv5, hr5, hb5⟩
        have HP5 : Hid (VarAt (putS w5 sb (.slice a5 1 q5) 0) sb 28 (.slice a5 1 q5) ⟨[m0], 0⟩ ∧ Below w.heap.size w (putS w5 sb (.slice a5 1 q5) 0)) := ⟨putS_at (e := 0) hv5 hr5, putS_below hb5 HSb.out⟩
        have k0 := hv5.blk.cell 0 _ rfl; have k1 := hv5.blk.cell 1 _ rfl; have f0 := hv5.blk.frozen 0; have f1 := hv5.blk.frozen 1
        clear hv5 hr5 hb5
        refine ⟨⟨⟨_, trivial⟩, rfl⟩, ?_⟩
        go_simp
        iterate 3 (refine tree_still rfl rfl ?_; go_big_quiet_step (fail); refine wpQuiet_nil ?_)
        refine tree_one rfl rfl ?_
        go_simp
        refine ⟨⟨⟨_, trivial⟩, rfl⟩, ?_⟩
        go_simp
        refine tree_still rfl rfl ?_; go_big_quiet_step (fail); refine wpQuiet_nil ?_
        refine tree_done ?_
        go_wp2
        go_meet
        exact ⟨rfl, a5, q5, HP5⟩
      · go_simp
        refine ⟨⟨⟨_, trivial⟩, rfl⟩, ?_⟩
        go_simp
        refine tree_still rfl rfl ?_; go_big_quiet_step (fail); refine wpQuiet_nil ?_
        refine tree_one rfl rfl ?_
        go_simp
        refine ⟨⟨⟨_, trivial⟩, rfl⟩, ?_⟩
        go_simp
        refine tree_one rfl rfl ?_
        go_simp
        refine HA.out.mono ?_
        rintro r w5 ⟨a5, q5, rfl, hv5, hr5, hb5⟩
        have HP5 : Hid (VarAt (putS w5 sb (.slice a5 1 q5) 0) sb 28 (.slice a5 1 q5) ⟨[m0], 0⟩ ∧ Below w.heap.size w (putS w5 sb (.slice a5 1 q5) 0)) := ⟨putS_at (e := 0) hv5 hr5, putS_below hb5 HSb.out⟩
        have k0 := hv5.blk.cell 0 _ rfl; have k1 := hv5.blk.cell 1 _ rfl; have f0 := hv5.blk.frozen 0; have f1 := hv5.blk.frozen 1
        clear hv5 hr5 hb5
        refine ⟨⟨⟨_, trivial⟩, rfl⟩, ?_⟩
        go_simp
        iterate 3 (refine tree_still rfl rfl ?_; go_big_quiet_step (fail); refine wpQuiet_nil ?_)
        refine tree_one rfl rfl ?_
        go_simp
        refine ⟨⟨⟨_, trivial⟩, rfl⟩, ?_⟩
        go_simp
        refine tree_still rfl rfl ?_; go_big_quiet_step (fail); refine wpQuiet_nil ?_
        refine tree_done ?_
        go_wp2
        go_meet
        exact ⟨rfl, a5, q5, HP5⟩
  case rest =>
    obtain ⟨rfl, a6, q6, H6⟩ := hcut
    rename World => w6
    have HV6 : Hid (VarAt w6 sb 28 (.slice a6 1 q6) ⟨[m0], 0⟩) := H6.out.1
    have HB6 : Hid (Below w.heap.size w w6) := H6.out.2
    clear x0 x1 y0 y1 z0 z1 HA HV2 HB2 H6
    have x0 := HV6.out.blk.cell 0 _ rfl; have x1 := HV6.out.blk.cell 1 _ rfl
    have HA : Hid (Calls Try.prog 13 #[.agg #[.slice a6 1 q6, .int .i64 0], .agg #[.int .i64 1, .int .i64 1, .int .u64 6, .int .i64 0, .slice none 0 0, .slice none 0 0]] w6 fun r w' => ∃ a q, r = .returned (.tuple #[.agg #[.slice a 2 q, .int .i64 0], .int .i64 0]) ∧ VarAt w' sb 28 (.slice a6 1 q6) ⟨[m0], 0⟩ ∧ RowF mc w' (.slice a 2 q) [m0, m1] ∧ Below w.heap.size w w') := (show Calls _ _ _ _ _ from by
      have h1 := apply13 (S := ⟨[m0], 0⟩) HV6.out.row (by simp) (by unfold EOk; simp) (cg_c1 w6)
      rw [alive_2] at h1
      refine h1.mono ?_
      rintro r w' ⟨v, rfl, hr, hb'⟩
      obtain ⟨a, q, rfl⟩ := hr.len
      exact ⟨a, q, rfl, HV6.out.below hb', hr, bnext HB6.out hb'⟩)
    go_upto_region 4 with (go_at_call 13; go_must (refine HA.out.mono ?_; rintro r w5 ⟨a5, q5, rfl, hv5, hr5, hb5⟩; have HP5 : Hid (VarAt (putS w5 sb (.slice a5 2 q5) 0) sb 28 (.slice a5 2 q5) ⟨[m0, m1], 0⟩ ∧ Below w.heap.size w (putS w5 sb (.slice a5 2 q5) 0)) := ⟨putS_at (e := 0) hv5 hr5, putS_below hb5 HSb.out⟩; have k0 := hv5.blk.cell 0 _ rfl; have k1 := hv5.blk.cell 1 _ rfl; have f0 := hv5.blk.frozen 0; have f1 := hv5.blk.frozen 1; clear hv5 hr5 hb5))
    unfold putS at HP5
    generalize (w5.setCell ⟨sb, 0, none⟩ (.slice a5 2 q5)).setCell ⟨sb, 1, none⟩ (.int .i64 0) = w7 at *
    have HM : Hid (∀ w', Below w7.heap.size w7 w' → Below w.heap.size w w' ∧ w'.cell? ⟨sb, 0, none⟩ = some (.slice a5 2 q5) ∧ w'.cell? ⟨sb, 1, none⟩ = some (.int .i64 0) ∧ ∀ who i ep, Calls Try.prog 24 #[.agg #[.slice a5 2 q5, .int .i64 0], .int .i64 who, .int .i64 i, .int .i64 ep] w' fun r w'' => r = .returned (.int .i64 (mayM ⟨[m0, m1], 0⟩ who i ep)) ∧ Below w7.heap.size w7 w'') := fun w' hb => by
      have h1 := HP5.out.1.below hb
      refine ⟨bnext HP5.out.2 hb, h1.blk.cell 0 _ rfl, h1.blk.cell 1 _ rfl, fun who i ep => ?_⟩
      refine (may24 h1.row 0 who i ep).mono ?_
      rintro r w'' ⟨rfl, hb'⟩
      exact ⟨rfl, bnext hb hb'⟩
    clear x0 x1 HA HV6 HB6 k0 k1 f0 f1
    obtain ⟨g1, g2, g3, g4⟩ := HM.out w7 (Below.refl _ _)
    have H1 : Hid (∀ who i ep, Calls Try.prog 24 #[.agg #[.slice a5 2 q5, .int .i64 0], .int .i64 who, .int .i64 i, .int .i64 ep] w7 fun r w'' => r = .returned (.int .i64 (mayM ⟨[m0, m1], 0⟩ who i ep)) ∧ Below w7.heap.size w7 w'') := g4
    clear g4
    go_wp2_with fail
    refine (H1.out 1 0 0).mono ?_
    rintro r w8 ⟨rfl, hb8⟩
    rw [alive_3]
    obtain ⟨p1, p2, p3, p4⟩ := HM.out w8 hb8
    have H2 : Hid (∀ who i ep, Calls Try.prog 24 #[.agg #[.slice a5 2 q5, .int .i64 0], .int .i64 who, .int .i64 i, .int .i64 ep] w8 fun r w'' => r = .returned (.int .i64 (mayM ⟨[m0, m1], 0⟩ who i ep)) ∧ Below w7.heap.size w7 w'') := p4
    clear p4 hb8
    go_wp2_with fail
    refine (H2.out 1 0 1).mono ?_
    rintro r w9 ⟨rfl, hb9⟩
    rw [alive_4]
    obtain ⟨r1, r2, r3, r4⟩ := HM.out w9 hb9
    have H3 : Hid (∀ who i ep, Calls Try.prog 24 #[.agg #[.slice a5 2 q5, .int .i64 0], .int .i64 who, .int .i64 i, .int .i64 ep] w9 fun r w'' => r = .returned (.int .i64 (mayM ⟨[m0, m1], 0⟩ who i ep)) ∧ Below w7.heap.size w7 w'') := r4
    clear r4 hb9
    go_wp2_with fail
    refine (H3.out 0 3 0).mono ?_
    rintro r w10 ⟨rfl, hb10⟩
    rw [alive_5]
    have HZ : Hid (Below w.heap.size w w10) := (show Below _ _ _ from (HM.out w10 hb10).1)
    clear hb10
    go_wp2
    go_ret
    exact ⟨rfl, HZ.out⟩
end Go.Proofs.Ytgoghmabhdkdjaa
