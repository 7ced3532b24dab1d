/-
  What stands behind bytes; the text of a signature.
-/
import Derived.Test.YtcacioogklgahaaForm
import Derived.Deep.RegionWith
import Derived.Deep.WholeRow
namespace Go.Proofs.Ytcacioogklgahaa
set_option linter.unusedVariables false
set_option synthInstance.maxSize 20000
open Classical
open Go.RowKit Go.Maps

def headOf (l : List Int) : Int := if l.length < 8 then 0 else ofBe8 l
theorem headOf_U64 {l : List Int} (ho : Oct l) : U64 (headOf l) := by
  unfold headOf
  split
  · exact ⟨by omega, by omega⟩
  · exact ofBe8_U64 l ho

theorem head_any (v : Value) (l : List Int) (w : World) (hv : Rd w v l) : Calls Try.prog 61 #[v] w fun e w' => e = .returned (.int .u64 (headOf l)) ∧ w' = w := handleAt_any v l w hv

/-- What find answers. -/
def Tab.find (T : Tab) (u : Int) (l : List Int) : Thing × Bool := if (T.at (headOf l)).use = u ∧ l = boxOf (headOf l) (T.at (headOf l)).zeros then (T.at (headOf l), true) else (noThing, false)

theorem blk2_0 (w : World) (c d : List Value) (e1 e2 : TypeId) : Blk ((w.alloc (.cells c.toArray e1)).alloc (.cells d.toArray e2)) w.heap.size e1 c := by
  unfold Blk
  rw [(MapKept.heap_alloc (w.alloc (.cells c.toArray e1)) (.cells d.toArray e2)).2 w.heap.size (by simp)]
  exact heap_alloc_new w _
theorem blk2_1 (w : World) (c d : List Value) (e1 e2 : TypeId) : Blk ((w.alloc (.cells c.toArray e1)).alloc (.cells d.toArray e2)) (w.heap.size + 1) e2 d := by
  have := heap_alloc_new (w.alloc (.cells c.toArray e1)) (.cells d.toArray e2)
  simpa [Blk] using this

set_option maxHeartbeats 1000000 in
set_option maxRecDepth 20000 in
theorem find_any (w : World) (b : Nat) (ft : List Nat) (T : Tab) (dv m1 m2 m3 : Value) (h : IsO w b ft T dv m1 m2 m3) (u : Int) (v : Value) (l : List Int) (hv : Rd w v l) (hz : (T.at (headOf l)).zeros ≤ 2000) :
    Calls Try.prog 48 #[ptr b, .int .i64 u, v] w fun e w' => e = .returned (.tuple #[thingVal (T.find u l).1, .bool (T.find u l).2]) ∧ Below w.heap.size w w' := by
  have hU := headOf_U64 hv.oct
  have H : Hid (IsO w b ft T dv m1 m2 m3) := h
  have c2 := (h.below ((Below.refl _ _).alloc (Nat.le_refl _) (.cells #[.int .i64 0, .int .u64 0, .int .u64 0, .int .i64 0, .string ⟨#[]⟩, .string ⟨#[]⟩] 72))).blk.cell 2 _ rfl
  have hl := (h.below ((Below.refl _ _).alloc (Nat.le_refl _) (.cells #[.int .i64 0, .int .u64 0, .int .u64 0, .int .i64 0, .string ⟨#[]⟩, .string ⟨#[]⟩] 72))).look hU
  have HV : Hid (Rd w v l) := hv
  have hv1 : Hid (Rd (w.alloc (.cells #[.int .i64 0, .int .u64 0, .int .u64 0, .int .i64 0, .string ⟨#[]⟩, .string ⟨#[]⟩] 72)) v l) := hv.below ((Below.refl _ _).alloc (Nat.le_refl _) _)
  unfold Tab.find
  have ho : Hid (Oct l) := hv.oct
  clear h hv
  unfold thingVal at hl
  generalize hhd : headOf l = g at hl hz hU ⊢
  generalize T.at g = t at hl hz ⊢
  by_cases hu : t.use = u
  · have hu' : (t.use != u) = false := by simpa using hu
    by_cases hb : l = boxOf g t.zeros
    · rw [if_pos ⟨hu, hb⟩]
      have HD : Hid (headOf l = g) := hhd
      have HBX : Hid (l = boxOf g t.zeros) := hb
      clear hhd hb hu
      go_enter Try.func48, Try.ntmps48
      go_wp2_with (first
        | (go_at_call 61; go_must (refine (head_any v l _ hv1.out).mono ?_; rintro e w2 ⟨rfl, rfl⟩; rw [HD.out]))
        | (go_at_call 45; go_must (refine (form_any g t.zeros _ hU hz).mono ?_; rintro e w3 ⟨v3, rfl, hown, hb3⟩; have X6 := (blk2_0 w [.int .i64 0, .int .u64 0, .int .u64 0, .int .i64 0, .string ⟨#[]⟩, .string ⟨#[]⟩] [.int .i64 t.use, .int .u64 t.secret, .int .u64 t.key, .int .i64 t.zeros, .string (strOfNums t.bound), .string (strOfNums t.plain)] 72 72).block (hb3.block w.heap.size (by simp; omega)); have X9 := (blk2_1 w [.int .i64 0, .int .u64 0, .int .u64 0, .int .i64 0, .string ⟨#[]⟩, .string ⟨#[]⟩] [.int .i64 t.use, .int .u64 t.secret, .int .u64 t.key, .int .i64 t.zeros, .string (strOfNums t.bound), .string (strOfNums t.plain)] 72 72).block (hb3.block (w.heap.size + 1) (by simp)); have k0 := X9.cell 0 _ rfl; have k1 := X9.cell 1 _ rfl; have k2 := X9.cell 2 _ rfl; have k3 := X9.cell 3 _ rfl; have k4 := X9.cell 4 _ rfl; have k5 := X9.cell 5 _ rfl; have j0 := X6.cell 0 _ rfl; have j1 := X6.cell 1 _ rfl; have j2 := X6.cell 2 _ rfl; have j3 := X6.cell 3 _ rfl; have j4 := X6.cell 4 _ rfl; have j5 := X6.cell 5 _ rfl; have i0 := X6.frozen 0; have i1 := X6.frozen 1; have i2 := X6.frozen 2; have i3 := X6.frozen 3; have i4 := X6.frozen 4; have i5 := X6.frozen 5; clear X6 X9))
        | (go_at_call 62; go_must (refine (equal_any v v3 l (boxOf g t.zeros) w3 (hv1.out.below (bnext ((Below.refl _ _).alloc (Nat.le_refl _) _) hb3)) hown.rd).mono ?_; rintro e w4 ⟨rfl, rfl⟩; rw [decide_eq_true HBX.out])))
      refine bodyPost_ret (v := .tuple #[thingVal t, .bool true]) ?_ rfl ⟨rfl, ?_⟩
      · rw [results_cell_tmp rfl]
        unfold thingVal
        go_simp
      · iterate 6 refine Below.setCell ?_ (by exact Nat.le_refl _) _
        exact bnext (balloc (balloc (Below.refl _ w) _) _) hb3
    · rw [if_neg (fun e => hb e.2)]
      have HD : Hid (headOf l = g) := hhd
      have HBX : Hid (¬ l = boxOf g t.zeros) := hb
      clear hhd hb hu
      go_enter Try.func48, Try.ntmps48
      go_wp2_with (first
        | (go_at_call 61; go_must (refine (head_any v l _ hv1.out).mono ?_; rintro e w2 ⟨rfl, rfl⟩; rw [HD.out]))
        | (go_at_call 45; go_must (refine (form_any g t.zeros _ hU hz).mono ?_; rintro e w3 ⟨v3, rfl, hown, hb3⟩; have X6 := (blk2_0 w [.int .i64 0, .int .u64 0, .int .u64 0, .int .i64 0, .string ⟨#[]⟩, .string ⟨#[]⟩] [.int .i64 t.use, .int .u64 t.secret, .int .u64 t.key, .int .i64 t.zeros, .string (strOfNums t.bound), .string (strOfNums t.plain)] 72 72).block (hb3.block w.heap.size (by simp; omega)); have X9 := (blk2_1 w [.int .i64 0, .int .u64 0, .int .u64 0, .int .i64 0, .string ⟨#[]⟩, .string ⟨#[]⟩] [.int .i64 t.use, .int .u64 t.secret, .int .u64 t.key, .int .i64 t.zeros, .string (strOfNums t.bound), .string (strOfNums t.plain)] 72 72).block (hb3.block (w.heap.size + 1) (by simp)); have k0 := X9.cell 0 _ rfl; have k1 := X9.cell 1 _ rfl; have k2 := X9.cell 2 _ rfl; have k3 := X9.cell 3 _ rfl; have k4 := X9.cell 4 _ rfl; have k5 := X9.cell 5 _ rfl; have j0 := X6.cell 0 _ rfl; have j1 := X6.cell 1 _ rfl; have j2 := X6.cell 2 _ rfl; have j3 := X6.cell 3 _ rfl; have j4 := X6.cell 4 _ rfl; have j5 := X6.cell 5 _ rfl; have i0 := X6.frozen 0; have i1 := X6.frozen 1; have i2 := X6.frozen 2; have i3 := X6.frozen 3; have i4 := X6.frozen 4; have i5 := X6.frozen 5; clear X6 X9))
        | (go_at_call 62; go_must (refine (equal_any v v3 l (boxOf g t.zeros) w3 (hv1.out.below (bnext ((Below.refl _ _).alloc (Nat.le_refl _) _) hb3)) hown.rd).mono ?_; rintro e w4 ⟨rfl, rfl⟩; rw [decide_eq_false HBX.out])))
      refine bodyPost_ret (v := .tuple #[thingVal noThing, .bool false]) ?_ rfl ⟨rfl, ?_⟩
      · rw [results_cell_tmp rfl]
        rw [tv_none]
        go_simp
      · iterate 6 refine Below.setCell ?_ (by exact Nat.le_refl _) _
        exact bnext (balloc (balloc (Below.refl _ w) _) _) hb3
  · rw [if_neg (fun e => hu e.1)]
    have hu' : (t.use != u) = true := by simpa using hu
    have HD : Hid (headOf l = g) := hhd
    clear hhd
    go_enter Try.func48, Try.ntmps48
    go_wp2_with (go_at_call 61; go_must (refine (head_any v l _ hv1.out).mono ?_; rintro e w2 ⟨rfl, rfl⟩; rw [HD.out]))
    refine bodyPost_ret (v := .tuple #[thingVal noThing, .bool false]) ?_ rfl ⟨rfl, ?_⟩
    · rw [results_cell_tmp rfl]
      rw [tv_none]
      go_simp
    · exact balloc (balloc (Below.refl _ w) _) _
end Go.Proofs.Ytcacioogklgahaa
