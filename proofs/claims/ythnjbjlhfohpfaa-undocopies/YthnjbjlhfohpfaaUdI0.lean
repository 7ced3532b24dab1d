/-
  A log in memory; what of a world a call on a log may write; place, Has, Len, Tree, New.
  Cells of steps that are copied within rows; the library's overlaps.
-/
import Derived.Test.YthnjbjlhfohpfaaCmA
import Derived.Test.YthnjbjlhfohpfaaUdS
import Derived.Test.YthnjbjlhfohpfaaTsG
import Derived.Lib.Overlaps
import Derived.Lib.AppendZerosOnto
import Derived.Laws.CopyOwn
namespace Go.Proofs.Ythnjbjlhfohpfaa
section
set_option linter.unusedVariables false
set_option linter.unusedSimpArgs false
set_option synthInstance.maxSize 20000
set_option maxHeartbeats 2000000
set_option maxRecDepth 20000
open Go.RowKit Go.Maps

/-- A step that stands in a log. -/
structure StOk (w : World) (s : ST) : Prop where
  right : rightO s.q = true
  rq : Rd w s.q.v s.q.b
  lq : s.q.b.length ≤ 1000
  rx : Rd w s.x.v s.x.m.b
  lx : s.x.m.b.length ≤ 1000
  sp : SOk s.x.m.p
theorem StOk.below {w w' : World} {s : ST} (h : StOk w s) (hb : Below w.heap.size w w') : StOk w' s := ⟨h.right, h.rq.below hb, h.lq, h.rx.below hb, h.lx, h.sp⟩
/-- A log in memory: its block, its row of steps, its tree. -/
structure LogAt (w : World) (lb : Nat) (v : Value) (tb : Nat) (mo : Option Nat) (L : List IT) (S : List ST) : Prop where
  blk : Blk w lb 68 [v, ptr tb]
  row : SRow w v S
  tree : PTr w tb mo L
  lst : L.map IT.m = buildM [] (opsS S)
  dn : Dn [] S
  str : StrS S
  ok : ∀ s ∈ S, StOk w s
  few : S.length ≤ 60
section
variable {w w' : World} {lb tb : Nat} {v : Value} {mo : Option Nat} {L : List IT} {S : List ST}
theorem LogAt.below (h : LogAt w lb v tb mo L S) (hb : Below w.heap.size w w') : LogAt w' lb v tb mo L S := ⟨h.blk.below hb, h.row.below hb, h.tree.below hb, h.lst, h.dn, h.str, fun s hs => (h.ok s hs).below hb, h.few⟩
theorem LogAt.gd (h : LogAt w lb v tb mo L S) : Gd (L.map IT.m) := by
  rw [h.lst]
  exact Gd.build gd_nil (by have := h.few; simp [opsS]; omega)
theorem LogAt.fewL (h : LogAt w lb v tb mo L S) : L.length ≤ 60 := by
  have h1 := buildM_len (opsS S) []
  rw [← h.lst, List.length_map] at h1
  have := h.few
  simp [opsS] at h1
  omega
end
/-- A log's blocks alone. -/
structure Lg3 (w : World) (lb : Nat) (v : Value) (tb : Nat) (mo : Option Nat) (L : List IT) (S : List ST) : Prop where
  blk : Blk w lb 68 [v, ptr tb]
  row : SRow w v S
  tree : PTr w tb mo L
theorem LogAt.lg3 {w : World} {lb tb : Nat} {v : Value} {mo : Option Nat} {L : List IT} {S : List ST} (h : LogAt w lb v tb mo L S) : Lg3 w lb v tb mo L S := ⟨h.blk, h.row, h.tree⟩
/-- From w to w' only the log's own blocks were written: its own, its row's, its tree's two. -/
structure Lw (lb tb : Nat) (mo : Option Nat) (v : Value) (w w' : World) (mo' : Option Nat) (v' : Value) : Prop where
  os : w'.os = w.os
  tape : w'.tape = w.tape
  output : w'.output = w.output
  size : w.heap.size ≤ w'.heap.size
  block : ∀ k, k < w.heap.size → k ≠ lb → k ≠ tb → mo ≠ some k → v.ownBlock ≠ some k → w'.heap[k]? = w.heap[k]?
  newm : mo' = mo ∨ ∃ mb, mo' = some mb ∧ w.heap.size ≤ mb
  newv : ∀ k, v'.ownBlock = some k → v.ownBlock = some k ∨ w.heap.size ≤ k
section
variable {w w1 w' : World} {lb tb : Nat} {v v1 v' : Value} {mo mo1 mo' : Option Nat} {L : List IT} {S : List ST}
theorem Lw.trans (h : Lw lb tb mo v w w1 mo1 v1) (h2 : Lw lb tb mo1 v1 w1 w' mo' v') : Lw lb tb mo v w w' mo' v' := by
  refine ⟨h2.os.trans h.os, h2.tape.trans h.tape, h2.output.trans h.output, Nat.le_trans h.size h2.size, fun k hk n1 n2 n3 n4 => ?_, ?_, fun k hk => ?_⟩
  · refine (h2.block k (Nat.lt_of_lt_of_le hk h.size) n1 n2 ?_ ?_).trans (h.block k hk n1 n2 n3 n4)
    · rcases h.newm with e | ⟨mb, e, hm⟩
      · rw [e]; exact n3
      · rw [e]; intro e2; cases e2; omega
    · intro e
      rcases h.newv k e with e | e
      · exact n4 e
      · omega
  · rcases h2.newm with e | ⟨mb, e, hm⟩
    · rw [e]; exact h.newm
    · exact .inr ⟨mb, e, Nat.le_trans h.size hm⟩
  · rcases h2.newv k hk with e | e
    · exact h.newv k e
    · exact .inr (Nat.le_trans h.size e)
theorem Lw.of_below (h : Below w.heap.size w w') : Lw lb tb mo v w w' mo v := ⟨h.os, h.tape, h.output, h.size, fun k hk _ _ _ _ => h.block k hk, .inl rfl, fun k hk => .inl hk⟩
theorem Lw.of_tw (h : Tw tb mo w w' mo') : Lw lb tb mo v w w' mo' v := ⟨h.os, h.tape, h.output, h.size, fun k hk _ n2 n3 _ => h.block k hk n2 n3, h.new, fun k hk => .inl hk⟩
theorem Lw.of_row (h : w.grownBy w' v.ownBlock) (hv : ∀ k, v'.ownBlock = some k → v.ownBlock = some k ∨ w.heap.size ≤ k) : Lw lb tb mo v w w' mo v' := ⟨h.os, h.tape, h.output, h.size, fun k hk _ _ _ n4 => h.block k hk (fun e => n4 e.symm), .inl rfl, hv⟩
theorem Lw.of_log (h : w.grownBy w' (some lb)) : Lw lb tb mo v w w' mo v := ⟨h.os, h.tape, h.output, h.size, fun k hk n1 _ _ _ => h.block k hk (fun e => n1 (Option.some.inj e)), .inl rfl, fun k hk => .inl hk⟩
theorem Lw.below {w0 : World} (h : Lw lb tb mo v w w' mo' v') (h0 : Below w0.heap.size w0 w) (h1 : w0.heap.size ≤ lb) (h2 : w0.heap.size ≤ tb) (h3 : ∀ k, mo = some k → w0.heap.size ≤ k) (h4 : ∀ k, v.ownBlock = some k → w0.heap.size ≤ k) : Below w0.heap.size w0 w' :=
  ⟨h.os.trans h0.os, h.tape.trans h0.tape, h.output.trans h0.output, Nat.le_trans h0.size h.size, fun k hk => (h.block k (Nat.lt_of_lt_of_le hk h0.size) (by omega) (by omega) (fun e => by have := h3 k e; omega) (fun e => by have := h4 k e; omega)).trans (h0.block k hk)⟩
/-- A block of cells of another type is none of the log's. -/
theorem Lg3.other (h : Lg3 w lb v tb mo L S) {k : Nat} {cs : Array Value} {e : TypeId} {z : Nat × Nat} (hk : w.heap[k]? = some (.cells cs e z)) (h1 : e ≠ 68) (h2 : e ≠ 84) (h3 : e ≠ 76) : k ≠ lb ∧ k ≠ tb ∧ mo ≠ some k ∧ v.ownBlock ≠ some k := by
  refine ⟨fun e' => ?_, fun e' => ?_, fun e' => ?_, fun e' => ?_⟩
  · have hb : w.heap[lb]? = some (.cells _ 68 (0, 0)) := h.blk
    rw [e', hb] at hk; cases hk; exact h1 rfl
  · have hb : w.heap[tb]? = some (.cells _ 84 (0, 0)) := h.tree.blk
    rw [e', hb] at hk; cases hk; exact h2 rfl
  · rcases h.tree.mp with ⟨e1, _⟩ | ⟨mb, e1, hm⟩
    · rw [e1] at e'; cases e'
    · rw [e1] at e'; cases e'
      exact hm.nocells hk
  · obtain ⟨vs, hb, _⟩ := h.row.cells e'
    have hb : w.heap[k]? = some (.cells _ 76 (0, 0)) := hb
    rw [hb] at hk; cases hk; exact h3 rfl
/-- Bytes lie in none of the log's blocks. -/
theorem Lg3.noBytes (h : Lg3 w lb v tb mo L S) {u : Value} {l : List Int} (hr : Rd w u l) (hl : l ≠ []) {k : Nat} (hk : u.ownBlock = some k) : k ≠ lb ∧ k ≠ tb ∧ mo ≠ some k ∧ v.ownBlock ≠ some k := by
  obtain ⟨_, a, cap, rfl, h1, h2, h3, h4⟩ := hr
  have hp : 0 < l.length := by cases l with
    | nil => exact absurd rfl hl
    | cons x l => simp
  obtain ⟨b', off, rfl, hc⟩ := h4 hp
  have e1 : b' = k := by simpa [Value.ownBlock] using hk
  have c0 := hc 0 hp
  rw [e1] at c0
  have cellOf : ∀ (e : TypeId) (vs : List Value), Blk w k e vs → NoB vs → False := fun e vs hb hn => by
    have hb2 : w.heap[k]? = some (.cells vs.toArray e (0, 0)) := hb
    simp [World.cell?, hb2] at c0
    exact hn _ (List.mem_of_getElem? c0) _ rfl
  refine ⟨fun e' => ?_, fun e' => ?_, fun e' => ?_, fun e' => ?_⟩
  · refine cellOf _ _ (e' ▸ h.blk) fun u hu n e => ?_
    obtain ⟨a, cap, hv⟩ := h.row.len
    rw [hv] at hu
    simp at hu
    rcases hu with rfl | rfl <;> cases e
  · refine cellOf _ _ (e' ▸ h.tree.blk) fun u hu n e => ?_
    simp at hu
    rw [hu] at e; cases e
  · rcases h.tree.mp with ⟨e1, _⟩ | ⟨mb, e1, hm⟩
    · rw [e1] at e'; cases e'
    · rw [e1] at e'; cases e'
      exact hm.nocell c0
  · obtain ⟨vs, hb, hn⟩ := h.row.cells e'
    exact cellOf _ _ hb hn
theorem LogAt.other (h : LogAt w lb v tb mo L S) {k : Nat} {cs : Array Value} {e : TypeId} {z : Nat × Nat} (hk : w.heap[k]? = some (.cells cs e z)) (h1 : e ≠ 68) (h2 : e ≠ 84) (h3 : e ≠ 76) : k ≠ lb ∧ k ≠ tb ∧ mo ≠ some k ∧ v.ownBlock ≠ some k := h.lg3.other hk h1 h2 h3
theorem LogAt.noBytes (h : LogAt w lb v tb mo L S) {u : Value} {l : List Int} (hr : Rd w u l) (hl : l ≠ []) {k : Nat} (hk : u.ownBlock = some k) : k ≠ lb ∧ k ≠ tb ∧ mo ≠ some k ∧ v.ownBlock ≠ some k := h.lg3.noBytes hr hl hk
theorem Lw.rd3 (h : Lw lb tb mo v w w' mo' v') (hL : Lg3 w lb v tb mo L S) {u : Value} {l : List Int} (hr : Rd w u l) : Rd w' u l :=
  hr.blocks fun hl k hk hlt => by
    obtain ⟨n1, n2, n3, n4⟩ := hL.noBytes hr hl hk
    exact h.block k hlt n1 n2 n3 n4
theorem Lw.rd (h : Lw lb tb mo v w w' mo' v') (hL : LogAt w lb v tb mo L S) {u : Value} {l : List Int} (hr : Rd w u l) : Rd w' u l :=
  hr.blocks fun hl k hk hlt => by
    obtain ⟨n1, n2, n3, n4⟩ := hL.noBytes hr hl hk
    exact h.block k hlt n1 n2 n3 n4
theorem Lw.typ (h : Lw lb tb mo v w w' mo' v') (hL : LogAt w lb v tb mo L S) {k : Nat} {cs : Array Value} {e : TypeId} {z : Nat × Nat} (hk : w.heap[k]? = some (.cells cs e z)) (h1 : e ≠ 68) (h2 : e ≠ 84) (h3 : e ≠ 76) : w'.heap[k]? = w.heap[k]? := by
  obtain ⟨n1, n2, n3, n4⟩ := hL.other hk h1 h2 h3
  exact h.block k (Array.getElem?_eq_some_iff.1 hk).1 n1 n2 n3 n4
theorem Lw.blk (h : Lw lb tb mo v w w' mo' v') (hL : LogAt w lb v tb mo L S) {k : Nat} {e : TypeId} {vs : List Value} (hb : Blk w k e vs) (h1 : e ≠ 68) (h2 : e ≠ 84) (h3 : e ≠ 76) : Blk w' k e vs := hb.block (h.typ hL hb h1 h2 h3)
end
section
variable {w : World} {lb tb : Nat} {v : Value} {U : List ST}
theorem place30 (hb : Blk w lb 68 [v, ptr tb]) (hv : SRow w v U) (hs : StrS U) (hl : U.length ≤ 1000) (a : S) : Calls Try.prog 30 #[ptr lb, sv a] w fun e w' => ∃ i, i ≤ U.length ∧ e = .returned (.tuple #[.int .i64 (i : Int), .bool (hereB (U.drop i) a)]) ∧ CutAt U (U.take i) (U.drop i) a ∧ Below w.heap.size w w' := by
  obtain ⟨w1, hw1⟩ : ∃ w1, w1 = w.alloc (.cells (sc a).toArray 33) := ⟨_, rfl⟩
  obtain ⟨B0, hB0⟩ : ∃ B0, B0 = w.heap.size := ⟨_, rfl⟩
  obtain ⟨i1, i2⟩ := box_new hw1 hB0
  have HB1 : Hid (Below w.heap.size w w1) := i1
  have HCa : Hid (∀ z : WIn (fun w' => Below w1.heap.size w1 w'), z.w.rangeAt B0 0 (sc a)) := fun z => Blk.range0 (i2.below z.ok)
  have HCl : Hid (∀ z : WIn (fun w' => Below w1.heap.size w1 w'), z.w.cell? ⟨lb, 0, none⟩ = some v) := fun z => (hb.below (bnext i1 z.ok)).cell 0 _ rfl
  have HK : Hid (∀ w', Below w.heap.size w w' → Calls Try.prog 56 #[v, sv a, .func (.func 57) #[] #[]] w' fun e w'' => ∃ i, i ≤ U.length ∧ e = .returned (.tuple #[.int .i64 (i : Int), .bool (hereB (U.drop i) a)]) ∧ CutAt U (U.take i) (U.drop i) a ∧ Below w'.heap.size w' w'') := fun w' h => search56 (hv.below h) hs hl
  clear i1 i2 hb hv hs
  go_enter Try.func30, Try.ntmps30
  go_upto_region 1 with (refine wpList_okw rfl (exec_box24 (n := a) (.tmp 1) rfl rfl) ?_)
  rw [← hw1, ← hB0]
  clear hw1 hB0
  have cl := HCl.out
  have ne : Nonempty (WIn (fun w' => Below w1.heap.size w1 w')) := ⟨⟨w1.drew, below_drewn w1 1⟩⟩
  refine wp_region_ord (C := fun w' => ∃ z : WIn (fun w' => Below w1.heap.size w1 w'), w' = z.w) [(false, 0), (false, 1), (false, 2), (false, 3), (false, 4), (true, 5), (false, 6), (false, 7), (false, 8), (false, 9)] (by kernel_rfl) (by kernel_rfl) ⟨⟨w1.drew, below_drewn w1 1⟩, rfl⟩ ?_
  iterate 4 (refine ord_still rfl rfl ?_; go_big_quiet_step (fail); refine wpQuiet_nil ?_)
  refine ord_still rfl rfl ?_
  refine quiet_ok1 rfl (fun w' hw' => by obtain ⟨z, rfl⟩ := hw'; exact exec_load24n (n := a) (.tmp 3) rfl rfl (HCa.out z)) ?_
  go_simp
  refine ord_mem rfl rfl ?_
  go_simp
  refine (HK.out _ (bnext HB1.out (below_drewn w1 1))).mono ?_
  rintro r w3 ⟨i, hi, rfl, hcut, hb⟩
  have HB3 : Hid (Below w1.heap.size w1 w3) := bnext (below_drewn w1 1) hb
  clear hb
  have HCut : Hid (CutAt U (U.take i) (U.drop i) a) := hcut
  have HI : Hid (i ≤ U.length) := hi
  clear hcut hi
  refine ⟨⟨⟨w3, HB3.out⟩, rfl⟩, ?_⟩
  go_simp
  iterate 4 (refine ord_still rfl rfl ?_; go_big_quiet_step (fail); refine wpQuiet_nil ?_)
  refine ord_end ?_
  clear ne
  clear cl
  go_wp2
  go_ret2
  exact ⟨i, HI.out, rfl, HCut.out, bnext HB1.out HB3.out⟩
theorem has11 (hb : Blk w lb 68 [v, ptr tb]) (hv : SRow w v U) (hs : StrS U) (hl : U.length ≤ 1000) (a : S) : Calls Try.prog 11 #[ptr lb, sv a] w fun e w' => (∃ i, i ≤ U.length ∧ e = .returned (.bool (hereB (U.drop i) a)) ∧ CutAt U (U.take i) (U.drop i) a) ∧ Below w.heap.size w w' := by
  obtain ⟨w1, hw1⟩ : ∃ w1, w1 = w.alloc (.cells (sc a).toArray 33) := ⟨_, rfl⟩
  obtain ⟨B0, hB0⟩ : ∃ B0, B0 = w.heap.size := ⟨_, rfl⟩
  obtain ⟨i1, i2⟩ := box_new hw1 hB0
  have HB1 : Hid (Below w.heap.size w w1) := i1
  have HCa : Hid (w1.rangeAt B0 0 (sc a)) := Blk.range0 i2
  have HK : Hid (∀ w', Below w.heap.size w w' → Calls Try.prog 30 #[ptr lb, sv a] w' fun e w'' => ∃ i, i ≤ U.length ∧ e = .returned (.tuple #[.int .i64 (i : Int), .bool (hereB (U.drop i) a)]) ∧ CutAt U (U.take i) (U.drop i) a ∧ Below w'.heap.size w' w'') := fun w' h => place30 (hb.below h) (hv.below h) hs hl a
  clear i1 i2 hb hv hs
  go_enter Try.func11, Try.ntmps11
  go_upto_region 1 with (refine wpList_okw rfl (exec_box24 (n := a) (.tmp 1) rfl rfl) ?_)
  rw [← hw1, ← hB0]
  clear hw1 hB0
  go_wp2_with (first
    | (refine wpList_okw rfl (exec_load24n (n := a) (.tmp 3) rfl rfl HCa.out) ?_)
    | (go_at_call 30; go_must (refine (HK.out _ HB1.out).mono ?_; rintro e w2 ⟨i, hi, rfl, hcut, hb⟩; have HCut : Hid (CutAt U (U.take i) (U.drop i) a) := hcut; have HI : Hid (i ≤ U.length) := hi; clear hcut hi)))
  go_ret
  exact ⟨⟨i, HI.out, rfl, HCut.out⟩, bnext HB1.out hb⟩
theorem len24 (hb : Blk w lb 68 [v, ptr tb]) (hv : SRow w v U) (hl : U.length ≤ 1000) : Calls Try.prog 24 #[ptr lb] w fun e w' => e = .returned (.int .i64 (U.length : Int)) ∧ Below w.heap.size w w' := by
  obtain ⟨ad, cap, rfl⟩ := hv.len
  have c0 := hb.cell 0 _ rfl
  clear hv hb
  go_enter Try.func24, Try.ntmps24
  go_wp2
  go_ret
  exact ⟨rfl, Below.refl _ _⟩
theorem tree16 (hb : Blk w lb 68 [v, ptr tb]) : Calls Try.prog 16 #[ptr lb] w fun e w' => e = .returned (ptr tb) ∧ Below w.heap.size w w' := by
  have c1 := hb.cell 1 _ rfl
  clear hb
  go_enter Try.func16, Try.ntmps16
  go_wp2
  go_ret
  exact ⟨rfl, Below.refl _ _⟩
end
/-- A new log's blocks are new. -/
def NewAns (w : World) (e : Ending) (w' : World) : Prop := ∃ lb tb, e = .returned (ptr lb) ∧ LogAt w' lb (.slice none 0 0) tb none [] [] ∧ w.heap.size ≤ lb ∧ w.heap.size ≤ tb ∧ Below w.heap.size w w'
theorem new9 (w : World) : Calls Try.prog 9 #[] w (NewAns w) := by
  have hN : ∀ w', Calls Try.prog 28 #[] w' fun e w'' => e = .returned (ptr w'.heap.size) ∧ w'' = w'.alloc (.cells #[.map none] 84) := fun w' => new10 w'
  obtain ⟨w1, hw1⟩ : ∃ w1, w1 = w.alloc (.cells #[.map none] 84) := ⟨_, rfl⟩
  obtain ⟨tb, htb⟩ : ∃ tb, tb = w.heap.size := ⟨_, rfl⟩
  have HP : Hid (PTr w1 tb none []) := by show PTr _ _ _ _; rw [hw1, htb]; exact ptr_new w
  have HB1 : Hid (Below w.heap.size w w1) := by show Below _ _ _; rw [hw1]; exact balloc (Below.refl _ _) _
  have HT : Hid (w.heap.size ≤ tb) := by show _ ≤ _; omega
  unfold NewAns
  go_enter Try.func9, Try.ntmps9
  go_wp2_with (go_at_call 28; go_must (refine (hN _).mono ?_; rintro e w2 ⟨rfl, rfl⟩; rw [← hw1, ← htb]; clear hw1 htb hN))
  go_ret
  refine ⟨_, tb, rfl, ⟨blk_new w1 [.slice none 0 0, ptr tb] 68, srow_nil _, HP.out.below (balloc (Below.refl _ _) _), rfl, trivial, List.Pairwise.nil, fun s hs => (by cases hs), Nat.zero_le _⟩, HB1.out.size, HT.out, balloc HB1.out _⟩
end

section
set_option linter.unusedVariables false
set_option linter.unusedSimpArgs false
set_option synthInstance.maxSize 20000
set_option maxHeartbeats 2000000
set_option maxRecDepth 20000
open Go.RowKit Go.Maps

theorem infoT : ∃ i, Try.prog.info? 76 = some i ∧ i.zero = some (tv tz) ∧ i.size = 21 ∧ i.bytes = 208 := by
  obtain ⟨i, hi, hz, hs1, hs2⟩ := info_parts ty66.info
  exact ⟨i, hi, hz, hs1, hs2⟩
/-- A run of stores into a block. -/
def spl (vs : List Value) (o : Nat) (us : List Value) : List Value := vs.take o ++ us ++ vs.drop (o + us.length)
theorem spl_len (vs : List Value) (o : Nat) (us : List Value) (h : o + us.length ≤ vs.length) : (spl vs o us).length = vs.length := by unfold spl; simp; omega
theorem spl_cons (vs : List Value) (o : Nat) (u : Value) (us : List Value) (h : o + 1 + us.length ≤ vs.length) : spl (vs.set o u) (o + 1) us = spl vs o (u :: us) := by
  unfold spl
  rw [List.length_cons, show o + (us.length + 1) = o + 1 + us.length by omega, List.drop_set, if_pos (by omega)]
  have e : (vs.set o u).take (o + 1) = vs.take o ++ [u] := by
    rw [List.take_succ_eq_append_getElem (by simp; omega), List.take_set_of_le (Nat.le_refl _)]
    simp
  rw [e]
  simp
theorem Blk.setsX {b : Nat} {e : TypeId} : ∀ (us : List Value) (o : Nat) (w : World) (vs : List Value), Blk w b e vs → o + us.length ≤ vs.length → Blk (w.setCells b o us) b e (spl vs o us) ∧ w.grownBy (w.setCells b o us) (some b)
  | [], o, w, vs, h, _ => ⟨by show Blk w b e _; unfold spl; simpa using h, grown_refl _ _⟩
  | u :: us, o, w, vs, h, hl => by
    simp only [List.length_cons] at hl
    obtain ⟨h1, h4⟩ := Blk.setsX us (o + 1) (w.setCell ⟨b, o, none⟩ u) (vs.set o u) (h.set o u) (by simp; omega)
    rw [spl_cons vs o u us (by omega)] at h1
    exact ⟨h1, grown_trans (grown_setCell w b o u) h4 (fun k hk => .inl hk)⟩
theorem Blk.cells {w : World} {b : Nat} {e : TypeId} {vs : List Value} (h : Blk w b e vs) (o : Nat) (us : List Value) (hs : ∀ j u, us[j]? = some u → vs[o + j]? = some u) : ∀ j u, us[j]? = some u → w.cell? ⟨b, o + j, none⟩ = some u := fun j u hu => h.cell _ _ (hs j u hu)
theorem Blk.isIn {w : World} {b : Nat} {e : TypeId} {vs : List Value} (h : Blk w b e vs) (j : Nat) (hj : j < vs.length) : (w.cell? ⟨b, j, none⟩).isSome = true := by
  rw [h.cell j _ (List.getElem?_eq_getElem hj)]
  rfl
theorem Blk.shape {w : World} {b : Nat} {e : TypeId} {vs : List Value} (h : Blk w b e vs) : w.shape? b = some (e, vs.length) := by
  unfold Blk at h
  simp [World.shape?, h]

/-- Two stores, the second behind the first .. -/
theorem spl_up (R A V D : List Value) (p : Nat) (hA : R.take p = A) (hp : A.length = p) (hl : p + V.length + D.length ≤ R.length) : (spl (spl R p V) (p + V.length) D).take (p + V.length + D.length) = A ++ V ++ D := by
  have e1 : (spl R p V).take (p + V.length) = A ++ V := by
    unfold spl
    rw [hA, List.take_append_of_le_length (by simp; omega), List.take_of_length_le (by simp; omega)]
  have e2 : spl (spl R p V) (p + V.length) D = A ++ V ++ D ++ (spl R p V).drop (p + V.length + D.length) := by
    rw [show spl (spl R p V) (p + V.length) D = (spl R p V).take (p + V.length) ++ D ++ (spl R p V).drop (p + V.length + D.length) from rfl, e1]
  rw [e2, List.take_append_of_le_length (by simp; omega), List.take_of_length_le (by simp; omega)]
/-- .. and ahead of it. -/
theorem spl_down (R A V D : List Value) (p : Nat) (hA : R.take p = A) (hp : A.length = p) (hl : p + V.length + D.length ≤ R.length) : (spl (spl R (p + V.length) D) p V).take (p + V.length + D.length) = A ++ V ++ D := by
  have e1 : (spl R (p + V.length) D).take p = A := by
    unfold spl
    rw [List.append_assoc, List.take_append_of_le_length (by simp; omega), List.take_take, Nat.min_eq_left (by omega), hA]
  have e3 : (spl R (p + V.length) D).drop (p + V.length) = D ++ R.drop (p + V.length + D.length) := by
    unfold spl
    rw [List.append_assoc, List.drop_append_of_le_length (by simp; omega), List.drop_of_length_le (by simp; omega)]
    rfl
  have e2 : spl (spl R (p + V.length) D) p V = A ++ V ++ D ++ R.drop (p + V.length + D.length) := by
    rw [show spl (spl R (p + V.length) D) p V = (spl R (p + V.length) D).take p ++ V ++ (spl R (p + V.length) D).drop (p + V.length) from rfl, e1, e3]
    simp
  rw [e2, List.take_append_of_le_length (by simp; omega), List.take_of_length_le (by simp; omega)]

/-- 'copy(d, s)' of heads, between plain cells. -/
theorem run_copy_heads (w : World) (dT sT ty : TypeId) (b o dLen dCap : Nat) (a : Addr) (sLen sCap : Nat) (cs : List Value)
    (hu : Try.prog.underlying dT = some (.slice 76)) (hn : cs.length = Nat.min sLen dLen * 21)
    (hsrc : ∀ j v, cs[j]? = some v → w.cell? (a.add j) = some v) (hc : ∀ j, j < cs.length → (w.cell? ⟨b, o + j, none⟩).isSome = true) (hf : ∀ j, j < cs.length → w.frozen? ⟨b, o + j, none⟩ = false) (h1 : ∀ v ∈ cs, v.oneCell' = true) :
    (Builtin.copy_ #[dT, sT] ty #[.slice (some ⟨b, o, none⟩) dLen dCap, .slice (some a) sLen sCap]).run Try.prog w = .ok (goInt (Nat.min sLen dLen)) (w.setCells b o cs) := by
  obtain ⟨i, hi, hz, hs1, hs2⟩ := infoT
  have hfc := run_firstCells_some (P := Try.prog) w i.size (Nat.min sLen dLen) a sLen sCap cs (by rw [hs1]; exact hn) hsrc
  have hst := run_storeCells_cells (P := Try.prog) b o cs 0 w (by simpa using hc) (by simpa using hf) h1
  rw [Nat.add_zero] at hst
  simp [Builtin.copy_, run_underlying hu, Builtin.lenOf, sizeOf, typeInfo, hi, hfc, hst]

section
variable {w : World} {ops : Array Oper} {rest : List Oper} {o : Oper} {a : Act} {Q : Exit → Act → World → Prop}
theorem wpList_copy_heads (hgd : o.guard = none) (d s : Operand) (dT sT : TypeId)
    (ho : o.op = .call { callee := .builtin .copy, args := #[d, s], argTypes := #[dT, sT] }) (v u : Value) (hd : a.eval d = v) (hs : a.eval s = u) {v' : Value} {w' : World}
    (hr : ∀ ty, (Builtin.copy_ #[dT, sT] ty #[v, u]).run Try.prog w = .ok v' w') (h : wpList Try.prog ops Q rest (a.put o.dst v') w') : wpList Try.prog ops Q (o :: rest) a w := by
  refine wpList_plain hgd fun K hK => ?_
  unfold Oper.wp
  simp [execOp, ho, resolve, invoke, builtin, hd, hs, hr, Result.andThen]
  exact hK _ _ h
theorem wpList_append_at (hgd : o.guard = none) (d s : Operand) (dT sT : TypeId)
    (ho : o.op = .call { callee := .builtin .append, args := #[d, s], argTypes := #[dT, sT] }) (v u : Value) (hd : a.eval d = v) (hs : a.eval s = u) {v' : Value} {w' : World}
    (hr : ∀ ty, (Builtin.append_ #[dT, sT] ty #[v, u]).run Try.prog w = .ok v' w') (h : wpList Try.prog ops Q rest (a.put o.dst v') w') : wpList Try.prog ops Q (o :: rest) a w := by
  refine wpList_plain hgd fun K hK => ?_
  unfold Oper.wp
  simp [execOp, ho, resolve, invoke, builtin, hd, hs, hr, Result.andThen]
  exact hK _ _ h
end

/-- The model's own overlaps, of two blocks. -/
theorem overlaps_any (w : World) (vb g o : Nat) (la ca lb cb : Nat) (us vs : List Value) (hX : Blk w vb 76 us) (hY : Blk w g 76 vs) (hne : vb ≠ g) (hl : 0 < vs.length) :
    (callFunc 62 #[.slice (some ⟨vb, 0, none⟩) la ca, .slice (some ⟨g, o, none⟩) lb cb]).run Try.prog w = .ok (.value (.bool false)) w := by
  obtain ⟨i, hi, hz, hs1, hs2⟩ := infoT
  rw [run_callFunc_extern Try.func62 (by kernel_rfl) (by kernel_rfl) (by kernel_rfl) (e := Extern.SlicesOverlaps.overlaps #[66, 66] #[4]) (by kernel_rfl),
    Lib.run_overlaps_apart w 66 4 76 Try.underlying66 21 (fun w => by simp [sizeOf, typeInfo, hi, hs1]) ⟨vb, 0, none⟩ ⟨g, o, none⟩ la ca lb cb hne 76 76 us.length vs.length hX.shape hY.shape (by omega) (hX.frozen 0) (hX.frozen _)]
  rfl
theorem NoB.spl {vs us : List Value} {o : Nat} (h : NoB vs) (hu : NoB us) : NoB (spl vs o us) := ((h.take o).append hu).append (h.drop _)
theorem zero_len (n : Nat) : (Builtin.zeroCells (tv tz).cells n).toList.length = n * 21 := by simp [Builtin.zeroCells, Value.cells, tv, tc_len]
theorem zero_noB (n : Nat) : NoB (Builtin.zeroCells (tv tz).cells n).toList := fun u hu m e => by
  simp [Builtin.zeroCells, Value.cells, tv, tc_len] at hu
  obtain ⟨i, hi, rfl⟩ := hu
  have hm : i % 21 < (tc tz).length := by rw [tc_len]; exact Nat.mod_lt _ (by omega)
  rw [List.getElem?_eq_getElem hm] at e
  exact noB_tc tz _ (List.getElem_mem hm) m e
theorem ftc_take (l : List ST) (i : Nat) : (flat tc l).take (i * 21) = flat tc (l.take i) := flat_take tc_len l i
theorem ftc_drop (l : List ST) (i : Nat) : (flat tc l).drop (i * 21) = flat tc (l.drop i) := flat_drop tc_len l i
theorem ftc_mid (l : List ST) (i : Nat) (h : ST) : flat tc (l.take i ++ h :: l.drop i) = flat tc (l.take i) ++ tc h ++ flat tc (l.drop i) := by rw [flat_append, flat_cons, List.append_assoc]
theorem mid_len (l : List ST) (i : Nat) (h : ST) (hi : i ≤ l.length) : (l.take i ++ h :: l.drop i).length = l.length + 1 := by simp; omega
end
end Go.Proofs.Ythnjbjlhfohpfaa
