/-
  The journal's block; begin, Open, Create, Count, Room, Round.
-/
import Derived.Test.YtkcighejmjgalaaDoorJrn
import Derived.OwnWalk
namespace Go.Proofs.YtkcighejmjgalaaDoor
set_option linter.unusedVariables false
set_option linter.unusedSimpArgs false
set_option synthInstance.maxSize 20000
set_option maxHeartbeats 2000000
set_option maxRecDepth 20000
open Go.RowKit Go.Maps

structure Jk where
  gen : Int
  round : Int
  next : Nat
  fin : Nat
  count : Nat
  failed : Bool
def jc (db : Nat) (J : Jk) : List Value := [ptr db, .int .u32 J.gen, .int .u32 J.round, .int .i64 (J.next : Int), .int .i64 (J.fin : Int), .int .i64 (J.count : Int), .bool J.failed]
structure JOk (J : Jk) : Prop where
  g : U32 J.gen
  g0 : J.gen ≠ 0
  r : U32 J.round
  r0 : J.round ≠ 0
  nf : J.next ≤ J.fin
  ff : J.fin ≤ 400
  cc : J.count ≤ J.next
/-- What begin, Open and Create make. -/
def beginJ (C : List (List Int)) (base size : Nat) (gen : Int) : Jk := ⟨gen, latest C gen + 1, base, base + size, 0, false⟩
def openJ (C : List (List Int)) (base size : Nat) (gen : Int) : Jk := ⟨gen, latest C gen + 1, base + (scan C gen).2, base + size, (scan C gen).1.length, false⟩
theorem openJ_ok {C : List (List Int)} {base size : Nat} {gen : Int} (hg : U32 gen) (hg0 : gen ≠ 0) (hC : ∀ s ∈ C, Oct s) (hl : C.length = size) (hs : base + size ≤ 400) (hr : latest C gen ≠ 4294967295) : JOk (openJ C base size gen) := by
  have h1 := latest_u32 gen hC
  have h2 := (scan_end C gen).1
  have h3 := h2.1
  have h4 := h2.2.1
  unfold U32 at h1
  exact ⟨hg, hg0, by unfold openJ U32; simp only; omega, by unfold openJ; simp only; omega, by unfold openJ; simp only; omega, by unfold openJ; simp only; omega, by unfold openJ; simp only; omega⟩
theorem beginJ_ok {C : List (List Int)} {base size : Nat} {gen : Int} (hg : U32 gen) (hg0 : gen ≠ 0) (hC : ∀ s ∈ C, Oct s) (hs : base + size ≤ 400) (hr : latest C gen ≠ 4294967295) : JOk (beginJ C base size gen) := by
  have h1 := latest_u32 gen hC
  unfold U32 at h1
  exact ⟨hg, hg0, by unfold beginJ U32; simp only; omega, by unfold beginJ; simp only; omega, by unfold beginJ; simp only; omega, by unfold beginJ; simp only; omega, by unfold beginJ; simp only; omega⟩
theorem results_tmp4 {fn : Func} {t u v x : Tmp} (h : fn.results = #[.tmp t, .tmp u, .tmp v, .tmp x]) (tmps : Array Value) (P : Program) (w : World) : (results fn tmps).run P w = .ok (.tuple #[tmps.getD t undef, tmps.getD u undef, tmps.getD v undef, tmps.getD x undef]) w := by
  simp [results, h]

section
variable {w : World} {o : Nat → Nat} {j b : Nat} {D : Dk}
theorem begin_bad (h : DIs w o j b D) (hl : D.now.length ≤ 400) {base size gen : Int} (hb : I64 base) (hs : I64 size) (hg : U32 gen) (hk : wrongK D base size gen ≠ 0) : Calls Tryd.prog 65 #[ptr b, .int .i64 base, .int .i64 size, .int .u32 gen] w fun r w' => r = .returned (.tuple #[.pointer none, nilv, .int .i64 0, .int .i64 (wrongK D base size gen)]) ∧ w' = w := by
  have H61 : Hid (Calls Tryd.prog 75 #[ptr b, .int .i64 base, .int .i64 size, .int .u32 gen] w fun r w' => r = .returned (.int .i64 (wrongK D base size gen)) ∧ w' = w) := wrong61 h hl hb hs hg
  have hk' : (wrongK D base size gen != 0) = true := by simpa using hk
  generalize wrongK D base size gen = K at *
  clear h hk
  go_enter Tryd.func65, Tryd.ntmps65
  go_wp2_with (go_at_call 75; go_must (refine H61.out.mono ?_; rintro r w2 ⟨rfl, hw2⟩; replace hw2 := hw2.symm; subst hw2))
  refine bodyPost_ret (results_tmp4 rfl _ _ _) rfl ⟨rfl, rfl⟩
theorem begin_nil (w : World) : Calls Tryd.prog 65 #[.pointer none, .int .i64 0, .int .i64 1, .int .u32 1] w fun r w' => r = .returned (.tuple #[.pointer none, nilv, .int .i64 0, .int .i64 23]) ∧ w' = w := by
  have H61 : Hid (Calls Tryd.prog 75 #[.pointer none, .int .i64 0, .int .i64 1, .int .u32 1] w fun r w' => r = .returned (.int .i64 23) ∧ w' = w) := wrong61_nil w
  go_enter Tryd.func65, Tryd.ntmps65
  go_wp2_with (go_at_call 75; go_must (refine H61.out.mono ?_; rintro r w2 ⟨rfl, hw2⟩; replace hw2 := hw2.symm; subst hw2))
  refine bodyPost_ret (results_tmp4 rfl _ _ _) rfl ⟨rfl, rfl⟩

/-- What begin has, up to the test of the round. -/
theorem begin_calls (h : DIs w o j b D) (hl : D.now.length ≤ 400) {base size : Nat} {gen : Int} (hg : U32 gen) (hk : wrongK D base size gen = 0) :
    Calls Tryd.prog 75 #[ptr b, .int .i64 (base : Int), .int .i64 (size : Int), .int .u32 gen] w (fun r w' => r = .returned (.int .i64 0) ∧ w' = w) ∧ base + size ≤ 400 ∧ (∀ s ∈ cont D base size, Oct s) ∧ (cont D base size).length = size ∧
    Calls Tryd.prog 76 #[ptr b, .int .i64 (base : Int), .int .i64 (size : Int)] w (fun r w' => ∃ v, r = .returned v ∧ OutL w.heap.size w' v (cont D base size) ∧ Below w.heap.size w w') ∧
    ∀ w1 v, OutL w.heap.size w1 v (cont D base size) → Calls Tryd.prog 44 #[v, .int .u32 gen] w1 fun r w' => ∃ v', r = .returned (.tuple #[v', .int .i64 ((scan (cont D base size) gen).2 : Nat), .int .u32 (latest (cont D base size) gen)]) ∧ OutL w1.heap.size w' v' (scan (cont D base size) gen).1 ∧ Below w1.heap.size w1 w' := by
  obtain ⟨h1, h2, h3, h4, h5⟩ := wrong_zero hk
  have hbs : base + size ≤ D.now.length := by omega
  refine ⟨?_, by omega, cont_oct, cont_len hbs, sectors62 h h5 hbs hl, fun w1 v hv => ?_⟩
  · have := wrong61 h hl (base := base) (size := size) (gen := gen) (by unfold I64; omega) (by unfold I64; omega) hg
    rwa [hk] at this
  · obtain ⟨qs, q1, q2, q3⟩ := hv
    have hql : qs.length = size := by rw [← LL_len, q2, cont_len hbs]
    have := scan17 (gen := gen) q1 (by omega) hg
    rwa [q2] at this

theorem begin_range (h : DIs w o j b D) (hl : D.now.length ≤ 400) {base size : Nat} {gen : Int} (hg : U32 gen) (hk : wrongK D base size gen = 0) (hr : latest (cont D base size) gen = 4294967295) : Calls Tryd.prog 65 #[ptr b, .int .i64 (base : Int), .int .i64 (size : Int), .int .u32 gen] w fun r w' => r = .returned (.tuple #[.pointer none, nilv, .int .i64 0, .int .i64 2]) ∧ Below w.heap.size w w' := by
  obtain ⟨c61, hbs, hoct, hlen, c62, c17⟩ := begin_calls h hl hg hk
  have H61 : Hid (Calls Tryd.prog 75 #[ptr b, .int .i64 (base : Int), .int .i64 (size : Int), .int .u32 gen] w (fun r w' => r = .returned (.int .i64 0) ∧ w' = w)) := c61
  have H62 : Hid (Calls Tryd.prog 76 #[ptr b, .int .i64 (base : Int), .int .i64 (size : Int)] w (fun r w' => ∃ v, r = .returned v ∧ OutL w.heap.size w' v (cont D base size) ∧ Below w.heap.size w w')) := c62
  have H17 : Hid (∀ w1 v, OutL w.heap.size w1 v (cont D base size) → Calls Tryd.prog 44 #[v, .int .u32 gen] w1 fun r w' => ∃ v', r = .returned (.tuple #[v', .int .i64 ((scan (cont D base size) gen).2 : Nat), .int .u32 (latest (cont D base size) gen)]) ∧ OutL w1.heap.size w' v' (scan (cont D base size) gen).1 ∧ Below w1.heap.size w1 w') := c17
  rw [hr] at H17
  generalize cont D base size = C at *
  generalize (scan C gen).2 = T at *
  clear c61 c62 c17 h
  go_enter Tryd.func65, Tryd.ntmps65
  go_wp2_with (first
    | (go_at_call 75; go_must (refine H61.out.mono ?_; rintro r w2 ⟨rfl, hw2⟩; replace hw2 := hw2.symm; subst hw2))
    | (go_at_call 76; go_must (refine H62.out.mono ?_; rintro r w2 ⟨v2, rfl, ho2, hb2⟩; have HC := H17.out w2 v2 ho2; obtain ⟨q2, q21, _⟩ := ho2; obtain ⟨a2, c2, hv2⟩ := q21.len; subst hv2; have HB2 : Hid (Below w.heap.size w w2) := hb2; clear hb2 q21))
    | (go_at_call 44; go_must (refine HC.mono ?_; rintro r w3 ⟨v3, rfl, ho3, hb3⟩; obtain ⟨q3, q31, _⟩ := ho3; obtain ⟨a3, c3, hv3⟩ := q31.len; subst hv3; have HB3 : Hid (Below w.heap.size w w3) := bnext HB2.out hb3; clear hb3 q31)))
  refine bodyPost_ret (results_tmp4 rfl _ _ _) rfl ⟨rfl, HB3.out⟩

theorem begin_ok (h : DIs w o j b D) (hl : D.now.length ≤ 400) {base size : Nat} {gen : Int} (hg : U32 gen) (hk : wrongK D base size gen = 0) (hr : latest (cont D base size) gen ≠ 4294967295) : Calls Tryd.prog 65 #[ptr b, .int .i64 (base : Int), .int .i64 (size : Int), .int .u32 gen] w fun r w' => ∃ w1 v, r = .returned (.tuple #[ptr w1.heap.size, v, .int .i64 ((scan (cont D base size) gen).2 : Nat), .int .i64 0]) ∧ OutL w.heap.size w1 v (scan (cont D base size) gen).1 ∧ Below w.heap.size w w1 ∧ w' = w1.alloc (.cells (jc b (beginJ (cont D base size) base size gen)).toArray 97) := by
  obtain ⟨c61, hbs, hoct, hlen, c62, c17⟩ := begin_calls h hl hg hk
  have H61 : Hid (Calls Tryd.prog 75 #[ptr b, .int .i64 (base : Int), .int .i64 (size : Int), .int .u32 gen] w (fun r w' => r = .returned (.int .i64 0) ∧ w' = w)) := c61
  have H62 : Hid (Calls Tryd.prog 76 #[ptr b, .int .i64 (base : Int), .int .i64 (size : Int)] w (fun r w' => ∃ v, r = .returned v ∧ OutL w.heap.size w' v (cont D base size) ∧ Below w.heap.size w w')) := c62
  have H17 : Hid (∀ w1 v, OutL w.heap.size w1 v (cont D base size) → Calls Tryd.prog 44 #[v, .int .u32 gen] w1 fun r w' => ∃ v', r = .returned (.tuple #[v', .int .i64 ((scan (cont D base size) gen).2 : Nat), .int .u32 (latest (cont D base size) gen)]) ∧ OutL w1.heap.size w' v' (scan (cont D base size) gen).1 ∧ Below w1.heap.size w1 w') := c17
  have hu := latest_u32 gen hoct
  unfold beginJ jc
  simp only
  generalize cont D base size = C at *
  have hr' : (latest C gen == 4294967295) = false := by simpa using hr
  have hR1 : 0 ≤ latest C gen := hu.1
  have hR2 : latest C gen < 4294967295 := by have := hu.2; omega
  generalize latest C gen = R at *
  generalize (scan C gen).2 = T at *
  clear c61 c62 c17 h hu hr
  go_enter Tryd.func65, Tryd.ntmps65
  go_wp2_with (first
    | (go_at_call 75; go_must (refine H61.out.mono ?_; rintro r w2 ⟨rfl, hw2⟩; replace hw2 := hw2.symm; subst hw2))
    | (go_at_call 76; go_must (refine H62.out.mono ?_; rintro r w2 ⟨v2, rfl, ho2, hb2⟩; have HC := H17.out w2 v2 ho2; obtain ⟨q2, q21, _⟩ := ho2; obtain ⟨a2, c2, hv2⟩ := q21.len; subst hv2; have HB2 : Hid (Below w.heap.size w w2) := hb2; clear hb2 q21))
    | (go_at_call 44; go_must (refine HC.mono ?_; rintro r w3 ⟨v3, rfl, ho3, hb3⟩; have HO3 : Hid (OutL w.heap.size w3 v3 (scan C gen).1) := ho3.mono HB2.out.size; obtain ⟨q3, q31, _⟩ := ho3; obtain ⟨a3, c3, hv3⟩ := q31.len; subst hv3; have HB3 : Hid (Below w.heap.size w w3) := bnext HB2.out hb3; clear hb3 q31)))
  refine bodyPost_ret (results_tmp4 rfl _ _ _) rfl ⟨w3, _, rfl, HO3.out, HB3.out, rfl⟩
end
end Go.Proofs.YtkcighejmjgalaaDoor
