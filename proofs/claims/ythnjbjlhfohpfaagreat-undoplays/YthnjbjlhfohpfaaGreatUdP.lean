/-
  A log in memory; what of a world a call on a log may write; place, Has, Len, Tree, New.
-/
import Derived.Test.YthnjbjlhfohpfaaGreatRot
import Derived.Test.YthnjbjlhfohpfaaGreatUdS
import Derived.Test.YthnjbjlhfohpfaaGreatTsG
namespace Go.Proofs.YthnjbjlhfohpfaaGreat
set_option linter.unusedVariables false
set_option linter.unusedSimpArgs false
set_option synthInstance.maxSize 20000
set_option maxHeartbeats 2000000
set_option maxRecDepth 20000
open Go.RowKit Go.Maps

/-- A step that stands in a log. -/
structure StOk (w : World) (s : ST) : Prop where
  right : rightO s.q = true
  rq : Rd w s.q.v s.q.b
  lq : s.q.b.length ≤ 1000
  rx : Rd w s.x.v s.x.m.b
  lx : s.x.m.b.length ≤ 1000
  sp : SOk s.x.m.p
theorem StOk.below {w w' : World} {s : ST} (h : StOk w s) (hb : Below w.heap.size w w') : StOk w' s := ⟨h.right, h.rq.below hb, h.lq, h.rx.below hb, h.lx, h.sp⟩
/-- A log in memory: its block, its row of steps, its tree. -/
structure LogAt (w : World) (lb : Nat) (v : Value) (tb : Nat) (mo : Option Nat) (L : List IT) (S : List ST) : Prop where
  blk : Blk w lb 66 [v, ptr tb]
  row : SRow w v S
  tree : PTr w tb mo L
  lst : L.map IT.m = buildM [] (opsS S)
  dn : Dn [] S
  str : StrS S
  ok : ∀ s ∈ S, StOk w s
  few : S.length ≤ 60
section
variable {w w' : World} {lb tb : Nat} {v : Value} {mo : Option Nat} {L : List IT} {S : List ST}
theorem LogAt.below (h : LogAt w lb v tb mo L S) (hb : Below w.heap.size w w') : LogAt w' lb v tb mo L S := ⟨h.blk.below hb, h.row.below hb, h.tree.below hb, h.lst, h.dn, h.str, fun s hs => (h.ok s hs).below hb, h.few⟩
theorem LogAt.gd (h : LogAt w lb v tb mo L S) : Gd (L.map IT.m) := by
  rw [h.lst]
  exact Gd.build gd_nil (by have := h.few; simp [opsS]; omega)
theorem LogAt.fewL (h : LogAt w lb v tb mo L S) : L.length ≤ 60 := by
  have h1 := buildM_len (opsS S) []
  rw [← h.lst, List.length_map] at h1
  have := h.few
  simp [opsS] at h1
  omega
end
/-- A log's blocks alone. -/
structure Lg3 (w : World) (lb : Nat) (v : Value) (tb : Nat) (mo : Option Nat) (L : List IT) (S : List ST) : Prop where
  blk : Blk w lb 66 [v, ptr tb]
  row : SRow w v S
  tree : PTr w tb mo L
theorem LogAt.lg3 {w : World} {lb tb : Nat} {v : Value} {mo : Option Nat} {L : List IT} {S : List ST} (h : LogAt w lb v tb mo L S) : Lg3 w lb v tb mo L S := ⟨h.blk, h.row, h.tree⟩
/-- From w to w' only the log's own blocks were written: its own, its row's, its tree's two. -/
structure Lw (lb tb : Nat) (mo : Option Nat) (v : Value) (w w' : World) (mo' : Option Nat) (v' : Value) : Prop where
  os : w'.os = w.os
  tape : w'.tape = w.tape
  output : w'.output = w.output
  size : w.heap.size ≤ w'.heap.size
  block : ∀ k, k < w.heap.size → k ≠ lb → k ≠ tb → mo ≠ some k → v.ownBlock ≠ some k → w'.heap[k]? = w.heap[k]?
  newm : mo' = mo ∨ ∃ mb, mo' = some mb ∧ w.heap.size ≤ mb
  newv : ∀ k, v'.ownBlock = some k → v.ownBlock = some k ∨ w.heap.size ≤ k
section
variable {w w1 w' : World} {lb tb : Nat} {v v1 v' : Value} {mo mo1 mo' : Option Nat} {L : List IT} {S : List ST}
theorem Lw.trans (h : Lw lb tb mo v w w1 mo1 v1) (h2 : Lw lb tb mo1 v1 w1 w' mo' v') : Lw lb tb mo v w w' mo' v' := by
  refine ⟨h2.os.trans h.os, h2.tape.trans h.tape, h2.output.trans h.output, Nat.le_trans h.size h2.size, fun k hk n1 n2 n3 n4 => ?_, ?_, fun k hk => ?_⟩
  · refine (h2.block k (Nat.lt_of_lt_of_le hk h.size) n1 n2 ?_ ?_).trans (h.block k hk n1 n2 n3 n4)
    · rcases h.newm with e | ⟨mb, e, hm⟩
      · rw [e]; exact n3
      · rw [e]; intro e2; cases e2; omega
    · intro e
      rcases h.newv k e with e | e
      · exact n4 e
      · omega
  · rcases h2.newm with e | ⟨mb, e, hm⟩
    · rw [e]; exact h.newm
    · exact .inr ⟨mb, e, Nat.le_trans h.size hm⟩
  · rcases h2.newv k hk with e | e
    · exact h.newv k e
    · exact .inr (Nat.le_trans h.size e)
theorem Lw.of_below (h : Below w.heap.size w w') : Lw lb tb mo v w w' mo v := ⟨h.os, h.tape, h.output, h.size, fun k hk _ _ _ _ => h.block k hk, .inl rfl, fun k hk => .inl hk⟩
theorem Lw.of_tw (h : Tw tb mo w w' mo') : Lw lb tb mo v w w' mo' v := ⟨h.os, h.tape, h.output, h.size, fun k hk _ n2 n3 _ => h.block k hk n2 n3, h.new, fun k hk => .inl hk⟩
theorem Lw.of_row (h : w.grownBy w' v.ownBlock) (hv : ∀ k, v'.ownBlock = some k → v.ownBlock = some k ∨ w.heap.size ≤ k) : Lw lb tb mo v w w' mo v' := ⟨h.os, h.tape, h.output, h.size, fun k hk _ _ _ n4 => h.block k hk (fun e => n4 e.symm), .inl rfl, hv⟩
theorem Lw.of_log (h : w.grownBy w' (some lb)) : Lw lb tb mo v w w' mo v := ⟨h.os, h.tape, h.output, h.size, fun k hk n1 _ _ _ => h.block k hk (fun e => n1 (Option.some.inj e)), .inl rfl, fun k hk => .inl hk⟩
theorem Lw.below {w0 : World} (h : Lw lb tb mo v w w' mo' v') (h0 : Below w0.heap.size w0 w) (h1 : w0.heap.size ≤ lb) (h2 : w0.heap.size ≤ tb) (h3 : ∀ k, mo = some k → w0.heap.size ≤ k) (h4 : ∀ k, v.ownBlock = some k → w0.heap.size ≤ k) : Below w0.heap.size w0 w' :=
  ⟨h.os.trans h0.os, h.tape.trans h0.tape, h.output.trans h0.output, Nat.le_trans h0.size h.size, fun k hk => (h.block k (Nat.lt_of_lt_of_le hk h0.size) (by omega) (by omega) (fun e => by have := h3 k e; omega) (fun e => by have := h4 k e; omega)).trans (h0.block k hk)⟩
/-- A block of cells of another type is none of the log's. -/
theorem Lg3.other (h : Lg3 w lb v tb mo L S) {k : Nat} {cs : Array Value} {e : TypeId} {z : Nat × Nat} (hk : w.heap[k]? = some (.cells cs e z)) (h1 : e ≠ 66) (h2 : e ≠ 91) (h3 : e ≠ 73) : k ≠ lb ∧ k ≠ tb ∧ mo ≠ some k ∧ v.ownBlock ≠ some k := by
  refine ⟨fun e' => ?_, fun e' => ?_, fun e' => ?_, fun e' => ?_⟩
  · have hb : w.heap[lb]? = some (.cells _ 66 (0, 0)) := h.blk
    rw [e', hb] at hk; cases hk; exact h1 rfl
  · have hb : w.heap[tb]? = some (.cells _ 91 (0, 0)) := h.tree.blk
    rw [e', hb] at hk; cases hk; exact h2 rfl
  · rcases h.tree.mp with ⟨e1, _⟩ | ⟨mb, e1, hm⟩
    · rw [e1] at e'; cases e'
    · rw [e1] at e'; cases e'
      exact hm.nocells hk
  · obtain ⟨vs, hb, _⟩ := h.row.cells e'
    have hb : w.heap[k]? = some (.cells _ 73 (0, 0)) := hb
    rw [hb] at hk; cases hk; exact h3 rfl
/-- Bytes lie in none of the log's blocks. -/
theorem Lg3.noBytes (h : Lg3 w lb v tb mo L S) {u : Value} {l : List Int} (hr : Rd w u l) (hl : l ≠ []) {k : Nat} (hk : u.ownBlock = some k) : k ≠ lb ∧ k ≠ tb ∧ mo ≠ some k ∧ v.ownBlock ≠ some k := by
  obtain ⟨_, a, cap, rfl, h1, h2, h3, h4⟩ := hr
  have hp : 0 < l.length := by cases l with
    | nil => exact absurd rfl hl
    | cons x l => simp
  obtain ⟨b', off, rfl, hc⟩ := h4 hp
  have e1 : b' = k := by simpa [Value.ownBlock] using hk
  have c0 := hc 0 hp
  rw [e1] at c0
  have cellOf : ∀ (e : TypeId) (vs : List Value), Blk w k e vs → NoB vs → False := fun e vs hb hn => by
    have hb2 : w.heap[k]? = some (.cells vs.toArray e (0, 0)) := hb
    simp [World.cell?, hb2] at c0
    exact hn _ (List.mem_of_getElem? c0) _ rfl
  refine ⟨fun e' => ?_, fun e' => ?_, fun e' => ?_, fun e' => ?_⟩
  · refine cellOf _ _ (e' ▸ h.blk) fun u hu n e => ?_
    obtain ⟨a, cap, hv⟩ := h.row.len
    rw [hv] at hu
    simp at hu
    rcases hu with rfl | rfl <;> cases e
  · refine cellOf _ _ (e' ▸ h.tree.blk) fun u hu n e => ?_
    simp at hu
    rw [hu] at e; cases e
  · rcases h.tree.mp with ⟨e1, _⟩ | ⟨mb, e1, hm⟩
    · rw [e1] at e'; cases e'
    · rw [e1] at e'; cases e'
      exact hm.nocell c0
  · obtain ⟨vs, hb, hn⟩ := h.row.cells e'
    exact cellOf _ _ hb hn
theorem LogAt.other (h : LogAt w lb v tb mo L S) {k : Nat} {cs : Array Value} {e : TypeId} {z : Nat × Nat} (hk : w.heap[k]? = some (.cells cs e z)) (h1 : e ≠ 66) (h2 : e ≠ 91) (h3 : e ≠ 73) : k ≠ lb ∧ k ≠ tb ∧ mo ≠ some k ∧ v.ownBlock ≠ some k := h.lg3.other hk h1 h2 h3
theorem LogAt.noBytes (h : LogAt w lb v tb mo L S) {u : Value} {l : List Int} (hr : Rd w u l) (hl : l ≠ []) {k : Nat} (hk : u.ownBlock = some k) : k ≠ lb ∧ k ≠ tb ∧ mo ≠ some k ∧ v.ownBlock ≠ some k := h.lg3.noBytes hr hl hk
theorem Lw.rd3 (h : Lw lb tb mo v w w' mo' v') (hL : Lg3 w lb v tb mo L S) {u : Value} {l : List Int} (hr : Rd w u l) : Rd w' u l :=
  hr.blocks fun hl k hk hlt => by
    obtain ⟨n1, n2, n3, n4⟩ := hL.noBytes hr hl hk
    exact h.block k hlt n1 n2 n3 n4
theorem Lw.rd (h : Lw lb tb mo v w w' mo' v') (hL : LogAt w lb v tb mo L S) {u : Value} {l : List Int} (hr : Rd w u l) : Rd w' u l :=
  hr.blocks fun hl k hk hlt => by
    obtain ⟨n1, n2, n3, n4⟩ := hL.noBytes hr hl hk
    exact h.block k hlt n1 n2 n3 n4
theorem Lw.typ (h : Lw lb tb mo v w w' mo' v') (hL : LogAt w lb v tb mo L S) {k : Nat} {cs : Array Value} {e : TypeId} {z : Nat × Nat} (hk : w.heap[k]? = some (.cells cs e z)) (h1 : e ≠ 66) (h2 : e ≠ 91) (h3 : e ≠ 73) : w'.heap[k]? = w.heap[k]? := by
  obtain ⟨n1, n2, n3, n4⟩ := hL.other hk h1 h2 h3
  exact h.block k (Array.getElem?_eq_some_iff.1 hk).1 n1 n2 n3 n4
theorem Lw.blk (h : Lw lb tb mo v w w' mo' v') (hL : LogAt w lb v tb mo L S) {k : Nat} {e : TypeId} {vs : List Value} (hb : Blk w k e vs) (h1 : e ≠ 66) (h2 : e ≠ 91) (h3 : e ≠ 73) : Blk w' k e vs := hb.block (h.typ hL hb h1 h2 h3)
end
section
variable {w : World} {lb tb : Nat} {v : Value} {U : List ST}
theorem place30 (hb : Blk w lb 66 [v, ptr tb]) (hv : SRow w v U) (hs : StrS U) (hl : U.length ≤ 1000) (a : S) : Calls Tryz.prog 34 #[ptr lb, sv a] w fun e w' => ∃ i, i ≤ U.length ∧ e = .returned (.tuple #[.int .i64 (i : Int), .bool (hereB (U.drop i) a)]) ∧ CutAt U (U.take i) (U.drop i) a ∧ Below w.heap.size w w' := by
  obtain ⟨w1, hw1⟩ : ∃ w1, w1 = w.alloc (.cells (sc a).toArray 35) := ⟨_, rfl⟩
  obtain ⟨B0, hB0⟩ : ∃ B0, B0 = w.heap.size := ⟨_, rfl⟩
  obtain ⟨i1, i2⟩ := box_new hw1 hB0
  have HB1 : Hid (Below w.heap.size w w1) := i1
  have HCa : Hid (∀ z : WIn (fun w' => Below w1.heap.size w1 w'), z.w.rangeAt B0 0 (sc a)) := fun z => Blk.range0 (i2.below z.ok)
  have HCl : Hid (∀ z : WIn (fun w' => Below w1.heap.size w1 w'), z.w.cell? ⟨lb, 0, none⟩ = some v) := fun z => (hb.below (bnext i1 z.ok)).cell 0 _ rfl
  have HK : Hid (∀ w', Below w.heap.size w w' → Calls Tryz.prog 55 #[v, sv a, .func (.func 56) #[] #[]] w' fun e w'' => ∃ i, i ≤ U.length ∧ e = .returned (.tuple #[.int .i64 (i : Int), .bool (hereB (U.drop i) a)]) ∧ CutAt U (U.take i) (U.drop i) a ∧ Below w'.heap.size w' w'') := fun w' h => search56 (hv.below h) hs hl
  clear i1 i2 hb hv hs
  go_enter Tryz.func34, Tryz.ntmps34
  go_upto_region 1 with (refine wpList_okw rfl (exec_box24 (n := a) (.tmp 1) rfl rfl) ?_)
  rw [← hw1, ← hB0]
  clear hw1 hB0
  have cl := HCl.out
  have ne : Nonempty (WIn (fun w' => Below w1.heap.size w1 w')) := ⟨⟨w1.drew, below_drewn w1 1⟩⟩
  refine wp_region_ord (C := fun w' => ∃ z : WIn (fun w' => Below w1.heap.size w1 w'), w' = z.w) [(false, 0), (false, 1), (false, 2), (false, 3), (false, 4), (true, 5), (false, 6), (false, 7), (false, 8), (false, 9)] (by kernel_rfl) (by kernel_rfl) ⟨⟨w1.drew, below_drewn w1 1⟩, rfl⟩ ?_
  iterate 4 (refine ord_still rfl rfl ?_; go_big_quiet_step (fail); refine wpQuiet_nil ?_)
  refine ord_still rfl rfl ?_
  refine quiet_ok1 rfl (fun w' hw' => by obtain ⟨z, rfl⟩ := hw'; exact exec_load24n (n := a) (.tmp 3) rfl rfl (HCa.out z)) ?_
  go_simp
  refine ord_mem rfl rfl ?_
  go_simp
  refine (HK.out _ (bnext HB1.out (below_drewn w1 1))).mono ?_
  rintro r w3 ⟨i, hi, rfl, hcut, hb⟩
  have HB3 : Hid (Below w1.heap.size w1 w3) := bnext (below_drewn w1 1) hb
  clear hb
  have HCut : Hid (CutAt U (U.take i) (U.drop i) a) := hcut
  have HI : Hid (i ≤ U.length) := hi
  clear hcut hi
  refine ⟨⟨⟨w3, HB3.out⟩, rfl⟩, ?_⟩
  go_simp
  iterate 4 (refine ord_still rfl rfl ?_; go_big_quiet_step (fail); refine wpQuiet_nil ?_)
  refine ord_end ?_
  clear ne
  clear cl
  go_wp2
  go_ret2
  exact ⟨i, HI.out, rfl, HCut.out, bnext HB1.out HB3.out⟩
theorem has11 (hb : Blk w lb 66 [v, ptr tb]) (hv : SRow w v U) (hs : StrS U) (hl : U.length ≤ 1000) (a : S) : Calls Tryz.prog 18 #[ptr lb, sv a] w fun e w' => (∃ i, i ≤ U.length ∧ e = .returned (.bool (hereB (U.drop i) a)) ∧ CutAt U (U.take i) (U.drop i) a) ∧ Below w.heap.size w w' := by
  obtain ⟨w1, hw1⟩ : ∃ w1, w1 = w.alloc (.cells (sc a).toArray 35) := ⟨_, rfl⟩
  obtain ⟨B0, hB0⟩ : ∃ B0, B0 = w.heap.size := ⟨_, rfl⟩
  obtain ⟨i1, i2⟩ := box_new hw1 hB0
  have HB1 : Hid (Below w.heap.size w w1) := i1
  have HCa : Hid (w1.rangeAt B0 0 (sc a)) := Blk.range0 i2
  have HK : Hid (∀ w', Below w.heap.size w w' → Calls Tryz.prog 34 #[ptr lb, sv a] w' fun e w'' => ∃ i, i ≤ U.length ∧ e = .returned (.tuple #[.int .i64 (i : Int), .bool (hereB (U.drop i) a)]) ∧ CutAt U (U.take i) (U.drop i) a ∧ Below w'.heap.size w' w'') := fun w' h => place30 (hb.below h) (hv.below h) hs hl a
  clear i1 i2 hb hv hs
  go_enter Tryz.func18, Tryz.ntmps18
  go_upto_region 1 with (refine wpList_okw rfl (exec_box24 (n := a) (.tmp 1) rfl rfl) ?_)
  rw [← hw1, ← hB0]
  clear hw1 hB0
  go_wp2_with (first
    | (refine wpList_okw rfl (exec_load24n (n := a) (.tmp 3) rfl rfl HCa.out) ?_)
    | (go_at_call 34; go_must (refine (HK.out _ HB1.out).mono ?_; rintro e w2 ⟨i, hi, rfl, hcut, hb⟩; have HCut : Hid (CutAt U (U.take i) (U.drop i) a) := hcut; have HI : Hid (i ≤ U.length) := hi; clear hcut hi)))
  go_ret
  exact ⟨⟨i, HI.out, rfl, HCut.out⟩, bnext HB1.out hb⟩
theorem len24 (hb : Blk w lb 66 [v, ptr tb]) (hv : SRow w v U) (hl : U.length ≤ 1000) : Calls Tryz.prog 10 #[ptr lb] w fun e w' => e = .returned (.int .i64 (U.length : Int)) ∧ Below w.heap.size w w' := by
  obtain ⟨ad, cap, rfl⟩ := hv.len
  have c0 := hb.cell 0 _ rfl
  clear hv hb
  go_enter Tryz.func10, Tryz.ntmps10
  go_wp2
  go_ret
  exact ⟨rfl, Below.refl _ _⟩
theorem tree16 (hb : Blk w lb 66 [v, ptr tb]) : Calls Tryz.prog 15 #[ptr lb] w fun e w' => e = .returned (ptr tb) ∧ Below w.heap.size w w' := by
  have c1 := hb.cell 1 _ rfl
  clear hb
  go_enter Tryz.func15, Tryz.ntmps15
  go_wp2
  go_ret
  exact ⟨rfl, Below.refl _ _⟩
end
/-- A new log's blocks are new. -/
def NewAns (w : World) (e : Ending) (w' : World) : Prop := ∃ lb tb, e = .returned (ptr lb) ∧ LogAt w' lb (.slice none 0 0) tb none [] [] ∧ w.heap.size ≤ lb ∧ w.heap.size ≤ tb ∧ Below w.heap.size w w'
theorem new9 (w : World) : Calls Tryz.prog 6 #[] w (NewAns w) := by
  have hN : ∀ w', Calls Tryz.prog 22 #[] w' fun e w'' => e = .returned (ptr w'.heap.size) ∧ w'' = w'.alloc (.cells #[.map none] 91) := fun w' => new10 w'
  obtain ⟨w1, hw1⟩ : ∃ w1, w1 = w.alloc (.cells #[.map none] 91) := ⟨_, rfl⟩
  obtain ⟨tb, htb⟩ : ∃ tb, tb = w.heap.size := ⟨_, rfl⟩
  have HP : Hid (PTr w1 tb none []) := by show PTr _ _ _ _; rw [hw1, htb]; exact ptr_new w
  have HB1 : Hid (Below w.heap.size w w1) := by show Below _ _ _; rw [hw1]; exact balloc (Below.refl _ _) _
  have HT : Hid (w.heap.size ≤ tb) := by show _ ≤ _; omega
  unfold NewAns
  go_enter Tryz.func6, Tryz.ntmps6
  go_wp2_with (go_at_call 22; go_must (refine (hN _).mono ?_; rintro e w2 ⟨rfl, rfl⟩; rw [← hw1, ← htb]; clear hw1 htb hN))
  go_ret
  refine ⟨_, tb, rfl, ⟨blk_new w1 [.slice none 0 0, ptr tb] 66, srow_nil _, HP.out.below (balloc (Below.refl _ _) _), rfl, trivial, List.Pairwise.nil, fun s hs => (by cases hs), Nat.zero_le _⟩, HB1.out.size, HT.out, balloc HB1.out _⟩
end Go.Proofs.YthnjbjlhfohpfaaGreat
