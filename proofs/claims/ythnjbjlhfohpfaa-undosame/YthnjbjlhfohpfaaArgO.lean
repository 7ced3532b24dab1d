/-
  Trees that are alike, by the program.
  ArgB: grafted.
  Operations that came in.
-/
import Derived.Test.YthnjbjlhfohpfaaTsI
import Derived.Test.YthnjbjlhfohpfaaPut
import Derived.Test.YthnjbjlhfohpfaaRef
import Derived.Test.YthnjbjlhfohpfaaTurn
import Derived.Deep.SlicePairs
import Derived.Lib.SmallJoins
import Derived.ProofKit
import Derived.OpenShut
import Derived.Test.YthnjbjlhfohpfaaLsG
import Derived.Test.YthnjbjlhfohpfaaRowG
namespace Go.Proofs.Ythnjbjlhfohpfaa
section
set_option linter.unusedVariables false
set_option linter.unusedSimpArgs false
set_option synthInstance.maxSize 20000
set_option maxHeartbeats 2000000
set_option maxRecDepth 20000
open Go.RowKit Go.Maps

theorem alike54 {x y : IT} {w : World} (hx : Rd w x.v x.m.b) (hy : Rd w y.v y.m.b) (e : x.m = y.m) : Calls Try.prog 40 #[iv x, iv y] w fun e w' => e = .returned (.bool true) ∧ Below w.heap.size w w' := by
  have HE : Hid (∀ w', Below w.heap.size w w' → Calls Try.prog 65 #[x.v, y.v] w' fun e w'' => e = .returned (.bool true) ∧ w'' = w') := fun w' h => by
    have := equal_any x.v y.v x.m.b y.m.b w' (hx.below h) (hy.below h)
    rw [e, decide_eq_true (show y.m.b = y.m.b from rfl)] at this
    exact this
  clear hx hy
  obtain ⟨⟨⟨n1, n2⟩, ⟨p1, p2⟩, s, d, g, ⟨y1, y2⟩, b⟩, a, vn, vc⟩ := x
  obtain ⟨m, a', vn', vc'⟩ := y
  dsimp only at e
  subst e
  unfold IT.v at HE
  unfold iv ic
  dsimp only at HE ⊢
  have HB0 : Hid (Below w.heap.size w ((w.alloc (.cells #[.int .i64 n1, .int .i64 n2, .int .i64 p1, .int .i64 p2, .string s, .bool d, .bool g, .slice a vn vc, .int .i64 y1, .int .i64 y2] 59)).alloc (.cells #[.int .i64 n1, .int .i64 n2, .int .i64 p1, .int .i64 p2, .string s, .bool d, .bool g, .slice a' vn' vc', .int .i64 y1, .int .i64 y2] 59))) := (show Below _ _ _ from balloc (balloc (Below.refl _ _) _) _)
  go_enter Try.func40, Try.ntmps40
  go_wp2_with (go_at_call 65; go_must (refine (HE.out _ HB0.out).mono ?_; rintro e w2 ⟨rfl, hw⟩; replace hw := hw.symm; subst hw))
  go_ret
  exact ⟨rfl, HB0.out⟩
section
variable {w : World} {ta tb : Nat} {mo mo2 : Option Nat} {A B : List IT}
theorem PTr.lenrun (h : PTr w tb mo A) (ty : TypeId) : (Builtin.len_ #[82] ty #[.map mo]).run Try.prog w = .ok (.int .i64 (A.length : Int)) w := by
  rcases h.mp with ⟨rfl, rfl⟩ | ⟨mb, rfl, hm⟩
  · simp [Builtin.len_, run_underlying under68, goInt]
  · exact hm.len ty
theorem eqf53n (hA : PTr w ta mo A) (hB : PTr w tb mo2 B) (h : A.length ≠ B.length) : Calls Try.prog 39 #[.map mo, .map mo2, .func (.func 40) #[] #[]] w fun e w' => e = .returned (.bool false) ∧ w' = w := by
  have l1 := fun ty => hA.lenrun ty
  have l2 := fun ty => hB.lenrun ty
  have hne : ((A.length : Int) != (B.length : Int)) = true := by
    simp only [bne_iff_ne, ne_eq]
    omega
  clear hA hB h
  go_enter Try.func39, Try.ntmps39
  go_wp2
  go_ret
  exact ⟨rfl, rfl⟩
set_option maxHeartbeats 8000000 in
theorem eqf53y (hA : PTr w ta mo A) (hB : PTr w tb mo2 B) (h : A.map IT.m = B.map IT.m) : Calls Try.prog 39 #[.map mo, .map mo2, .func (.func 40) #[] #[]] w fun e w' => e = .returned (.bool true) ∧ Below w.heap.size w w' := by
  have HA : Hid (PTr w ta mo A) := hA
  have HBt : Hid (PTr w tb mo2 B) := hB
  have HE : Hid (A.map IT.m = B.map IT.m) := h
  have l1 := fun ty => hA.lenrun ty
  have l2 := fun ty => hB.lenrun ty
  have hlen : A.length = B.length := by have := congrArg List.length h; simpa using this
  rw [← hlen] at l2
  have hne : ((A.length : Int) != (A.length : Int)) = false := by simp
  obtain ⟨w1, hrun, hit, hg1, hs1⟩ := hA.range
  have HRUN : Hid ((Instr.range 82 (.map mo)).run Try.prog w = .ok (.pointer (some ⟨w.heap.size, 0, none⟩)) w1) := hrun
  have HIT1 : Hid (ItT w1 mo w.heap.size A []) := hit
  have HB1 : Hid (Below w.heap.size w w1) := grown_below hg1
  obtain ⟨r, hr⟩ : ∃ r, r = w.heap.size := ⟨_, rfl⟩
  have HR : Hid (w.heap.size ≤ r) := by show _ ≤ _; omega
  rw [← hr] at HIT1 HRUN
  clear hA hB h hlen hrun hit hg1 hs1
  go_enter Try.func39, Try.ntmps39
  go_wp2_with (refine wpList_okw rfl (exec_range (mo := mo) (.tmp 16) rfl rfl HRUN.out) ?_)
  go_frame
  clear hr HRUN l1 l2 hne
  go_loopw [6] (fun v wr => ∃ done, Hid (ItT wr mo r A done) ∧ Hid (Below w.heap.size w wr)) (fun _ wr => itLeft wr mo r)
  case atStart => exact ⟨[], HIT1, HB1⟩
  case round =>
    obtain ⟨done, HIT, HB⟩ := hrel
    clear HIT1 HB1
    rename World => wr
    have hokL := HA.out.okL
    have hsrt := HA.out.srt
    rcases HIT.out.next hokL hsrt 0 with ⟨hall, hrun⟩ | ⟨x, w2, hx, hnx, hrun, hit2, hlt, hg2, hsz, hen⟩
    · have HRUN : Hid ((Instr.next (.pointer (some ⟨r, 0, none⟩)) false 0).run Try.prog wr = .ok (.tuple #[.bool false]) wr) := hrun
      clear hokL hsrt hall hrun
      have tk1 : Hid True := trivial
      go_wp2_with (clear tk1; refine wpList_okw rfl (exec_next (.tmp 17) rfl rfl HRUN.out) ?_)
      go_ret
      exact ⟨rfl, HB.out⟩
    · have HRUN : Hid ((Instr.next (.pointer (some ⟨r, 0, none⟩)) false 0).run Try.prog wr = .ok (.tuple #[.bool true, sv x.m.n, iv x]) w2) := hrun
      have HEN : Hid ((Instr.entry (.pointer (some ⟨r, 0, none⟩))).run Try.prog w2 = .ok (.tuple #[sv x.m.n, iv x]) w2) := hen
      have HIT2 : Hid (ItT w2 mo r A (done ++ [x])) := hit2
      have HX : Hid (x ∈ A) := hx
      have HLT : Hid (itLeft w2 mo r < itLeft wr mo r) := hlt
      have HB2 : Hid (Below w.heap.size w w2) := bgrown HB.out HR.out hg2
      have hno : SOk x.m.n := (HA.out.ok x hx).1
      obtain ⟨y, b, hlook, hgot⟩ := HBt.out.look hno
      have hmem : x.m ∈ B.map IT.m := by rw [← HE.out]; exact List.mem_map.2 ⟨x, hx, rfl⟩
      have hf : findM (B.map IT.m) x.m.n = some x.m := findM_of HBt.out.srt hmem
      have hb : b = true := by have := hgot.is; rw [hf] at this; exact this
      subst hb
      have HYM : Hid (x.m = y.m) := by show _ = _; have := hgot.m; rw [hf] at this; exact this.symm
      have HRy : Hid (Rd w y.v y.m.b) := hgot.rd
      have HLook : Hid (∀ w', Below w.heap.size w w' → (Instr.lookup 82 (.map mo2) (sv x.m.n) true).run Try.prog w' = .ok (.tuple #[iv y, .bool true]) w') := hlook
      clear hokL hsrt hx hnx hrun hit2 hlt hg2 hsz hen HIT HB hno hlook hgot hmem hf
      obtain ⟨w3, hw3⟩ : ∃ w3, w3 = w2.alloc (.cells (sc (0, 0)).toArray 33) := ⟨_, rfl⟩
      obtain ⟨B3, hB3⟩ : ∃ B3, B3 = w2.heap.size := ⟨_, rfl⟩
      obtain ⟨w4, hw4⟩ : ∃ w4, w4 = w3.alloc (.cells (ic zT).toArray 59) := ⟨_, rfl⟩
      obtain ⟨B4, hB4⟩ : ∃ B4, B4 = w3.heap.size := ⟨_, rfl⟩
      obtain ⟨w5, hw5⟩ : ∃ w5, w5 = w4.setCells B3 0 (sc x.m.n) := ⟨_, rfl⟩
      obtain ⟨w6, hw6⟩ : ∃ w6, w6 = w5.setCells B4 0 (ic x) := ⟨_, rfl⟩
      have a3 : Blk w3 B3 33 (sc (0, 0)) := by rw [hw3, hB3]; exact blk_new w2 _ 33
      have a4 : Blk w4 B3 33 (sc (0, 0)) := by rw [hw4]; exact a3.alloc _
      have b4 : Itp w4 B4 zT := by rw [hw4, hB4]; exact itp_new w3 zT
      have hne : B3 ≠ B4 := by have := a3.lt; omega
      have a5 : Blk w5 B3 33 (sc x.m.n) := by rw [hw5]; exact Blk.put2 a4
      have b5 : Itp w5 B4 zT := by rw [hw5]; exact Blk.past b4 (grown_setCells _ _ _ _) hne.symm
      have a6 : Blk w6 B3 33 (sc x.m.n) := by rw [hw6]; exact a5.past (grown_setCells _ _ _ _) hne
      have b6 : Itp w6 B4 x := by rw [hw6]; exact Itp.put b5 x
      have c3 : Below w2.heap.size w2 w3 := by rw [hw3]; exact balloc (Below.refl _ _) _
      have c4 : Below w2.heap.size w2 w4 := by rw [hw4]; exact balloc c3 _
      have c5 : Below w2.heap.size w2 w5 := by rw [hw5]; exact below_put c4 (by omega)
      have c6 : Below w2.heap.size w2 w6 := by rw [hw6]; exact below_put c5 (by have := c3.size; omega)
      have HT4 : Hid (w4.there B3 0 2) := a4.there 0 2 (by simp [sc])
      have HT5 : Hid (w5.there B4 0 10) := Itp.there b5
      have HA6 : Hid (w6.rangeAt B3 0 (sc x.m.n)) := a6.range0
      have HI6 : Hid (Itp w6 B4 x) := b6
      have HB6 : Hid (Below w2.heap.size w2 w6) := c6
      have HW3 : Hid (w3 = w2.alloc (.cells (sc (0, 0)).toArray 33)) := hw3
      have HB3 : Hid (B3 = w2.heap.size) := hB3
      have HW4 : Hid (w4 = w3.alloc (.cells (ic zT).toArray 59)) := hw4
      have HB4 : Hid (B4 = w3.heap.size) := hB4
      have HW5 : Hid (w5 = w4.setCells B3 0 (sc x.m.n)) := hw5
      have HW6 : Hid (w6 = w5.setCells B4 0 (ic x)) := hw6
      have HBx : Hid (Below w.heap.size w w6) := bnext HB2.out c6
      clear hw3 hB3 hw4 hB4 hw5 hw6 a3 a4 b4 hne a5 b5 a6 b6 c3 c4 c5 c6
      obtain ⟨w7, hw7⟩ : ∃ w7, w7 = w6.alloc (.cells (ic zT).toArray 59) := ⟨_, rfl⟩
      obtain ⟨g, hg⟩ : ∃ g, g = w6.heap.size := ⟨_, rfl⟩
      obtain ⟨w8, hw8⟩ : ∃ w8, w8 = w7.setCells g 0 (ic y) := ⟨_, rfl⟩
      obtain ⟨j1, j2, j3, j4⟩ := item_putp HBx.out hw7 hg hw8
      have HT7 : Hid (w7.there g 0 10) := (show _ from by rw [hw7, hg]; exact (itp_new w6 zT).there)
      have HI8 : Hid (Itp w8 g y) := j1
      have HB8 : Hid (Below w.heap.size w w8) := j2
      have HB68 : Hid (Below w6.heap.size w6 w8) := j3
      have HW7 : Hid (w7 = w6.alloc (.cells (ic zT).toArray 59)) := hw7
      have HGG : Hid (g = w6.heap.size) := hg
      have HW8 : Hid (w8 = w7.setCells g 0 (ic y)) := hw8
      have HRx8 : Hid (w8.rangeAt B4 0 (ic x)) := Itp.range (HI6.out.below j3)
      have HRy8 : Hid (w8.rangeAt g 0 (ic y)) := j1.range
      have HAl : Hid (Calls Try.prog 40 #[iv x, iv y] w8 fun e w' => e = .returned (.bool true) ∧ Below w8.heap.size w8 w') := alike54 ((HA.out.rd x HX.out).below j2) (HRy.out.below j2) HYM.out
      clear j1 j2 j3 j4 hw7 hg hw8
      have tk1 : Hid True := trivial
      have tk2 : Hid True := trivial
      have tk3 : Hid True := trivial
      have tk4 : Hid True := trivial
      have tk5 : Hid True := trivial
      have tk6 : Hid True := trivial
      have tk7 : Hid True := trivial
      have tk8 : Hid True := trivial
      have tk9 : Hid True := trivial
      have tka : Hid True := trivial
      have tkb : Hid True := trivial
      have tkc : Hid True := trivial
      go_wp2_with (first
        | (clear tk1; refine wpList_okw rfl (exec_next (.tmp 17) rfl rfl HRUN.out) ?_)
        | (clear tk2; refine wpList_okw rfl (exec_entry (.tmp 17) rfl rfl HEN.out) ?_)
        | (clear tk3; refine wpList_okw rfl (exec_alloc24 rfl) ?_; rw [← HW3.out, ← HB3.out])
        | (clear tk4; refine wpList_okw rfl (exec_alloc35 rfl) ?_; rw [← HW4.out, ← HB4.out])
        | (clear tk5; refine wpList_skipw rfl (exec_store24n (n := x.m.n) (.tmp 7) (.tmp 21) rfl rfl rfl HT4.out) ?_; rw [← HW5.out])
        | (clear tk6; refine wpList_skipw rfl (exec_store35 (q := x) (.tmp 8) (.tmp 22) rfl rfl rfl HT5.out) ?_; rw [← HW6.out])
        | (clear tk7; refine wpList_okw rfl (exec_load24n (n := x.m.n) (.tmp 7) rfl rfl HA6.out) ?_)
        | (clear tk8; refine wpList_okw rfl (exec_look (n := x.m.n) (.tmp 24) (.tmp 25) rfl rfl rfl (HLook.out _ HBx.out)) ?_)
        | (clear tk9; refine wpList_okw rfl (exec_alloc35 rfl) ?_; rw [← HW7.out, ← HGG.out])
        | (clear tka; refine wpList_skipw rfl (exec_store35 (q := y) (.tmp 9) (.tmp 27) rfl rfl rfl HT7.out) ?_; rw [← HW8.out])
        | (clear tkb; refine wpList_okw rfl (exec_load35 (q := x) (.tmp 8) rfl rfl HRx8.out) ?_)
        | (clear tkc; refine wpList_okw rfl (exec_load35 (q := y) (.tmp 9) rfl rfl HRy8.out) ?_)
        | (go_at_call 40; go_must (refine HAl.out.mono ?_; rintro e w9 ⟨rfl, hb9⟩; have HB9 : Hid (Below w8.heap.size w8 w9) := hb9; clear hb9)))
      have hbz := bnext HB6.out (bnext HB68.out HB9.out)
      go_roundw
      case rel => exact ⟨done ++ [x], (HIT2.out.below hbz).1, bnext HB2.out hbz⟩
      case measure => rw [(HIT2.out.below hbz).2]; exact HLT.out
theorem same29 (hA : PTr w ta mo A) (hB : PTr w tb mo2 B) (R : Bool) (hf : ∀ w', Below w.heap.size w w' → Calls Try.prog 39 #[.map mo, .map mo2, .func (.func 40) #[] #[]] w' fun e w'' => e = .returned (.bool R) ∧ Below w'.heap.size w' w'') : Calls Try.prog 15 #[ptr ta, ptr tb] w fun e w' => e = .returned (.bool R) ∧ Below w.heap.size w w' := by
  have HF : Hid (∀ w', Below w.heap.size w w' → Calls Try.prog 39 #[.map mo, .map mo2, .func (.func 40) #[] #[]] w' fun e w'' => e = .returned (.bool R) ∧ Below w'.heap.size w' w'') := hf
  have ca := fun z : WIn (fun w' => Below w.heap.size w w') => (hA.below z.ok).blk.cell 0 _ rfl
  have cb := fun z : WIn (fun w' => Below w.heap.size w w') => (hB.below z.ok).blk.cell 0 _ rfl
  clear hA hB hf
  go_enter Try.func15, Try.ntmps15
  go_upto_region 3 with fail
  have ne : Nonempty (WIn (fun w' => Below w.heap.size w w')) := ⟨⟨w.drew, below_drewn w 1⟩⟩
  refine wp_region_ord (C := fun w' => ∃ z : WIn (fun w' => Below w.heap.size w w'), w' = z.w) [(false, 0), (false, 1), (false, 2), (false, 3), (false, 4), (false, 5), (false, 6), (false, 7), (true, 8), (false, 9)] (by kernel_rfl) (by kernel_rfl) ⟨⟨w.drew, below_drewn w 1⟩, rfl⟩ ?_
  iterate 8 (refine ord_still rfl rfl ?_; go_big_quiet_step (fail); refine wpQuiet_nil ?_)
  refine ord_mem rfl rfl ?_
  go_simp
  refine (HF.out _ (below_drewn w 1)).mono ?_
  rintro r w2 ⟨rfl, hb⟩
  have HB2 : Hid (Below w.heap.size w w2) := bnext (below_drewn w 1) hb
  clear hb
  refine ⟨⟨⟨w2, HB2.out⟩, rfl⟩, ?_⟩
  go_simp
  iterate 1 (refine ord_still rfl rfl ?_; go_big_quiet_step (fail); refine wpQuiet_nil ?_)
  refine ord_end ?_
  clear ne
  clear ca cb
  go_wp2
  go_ret
  exact ⟨rfl, HB2.out⟩
theorem same29y (hA : PTr w ta mo A) (hB : PTr w tb mo2 B) (h : A.map IT.m = B.map IT.m) : Calls Try.prog 15 #[ptr ta, ptr tb] w fun e w' => e = .returned (.bool true) ∧ Below w.heap.size w w' :=
  same29 hA hB true fun w' hb => eqf53y (hA.below hb) (hB.below hb) h
theorem same29n (hA : PTr w ta mo A) (hB : PTr w tb mo2 B) (h : A.length ≠ B.length) : Calls Try.prog 15 #[ptr ta, ptr tb] w fun e w' => e = .returned (.bool false) ∧ Below w.heap.size w w' :=
  same29 hA hB false fun w' hb => (eqf53n (hA.below hb) (hB.below hb) h).mono (by rintro e w'' ⟨rfl, rfl⟩; exact ⟨rfl, Below.refl _ _⟩)
end
end

section
section
section
open Go.ChangeShapes Go.WideShapes Go.ChangeAt Go.RowKit
set_option linter.unusedVariables false
set_option maxRecDepth 100000 in
theorem stamp_of {H : Type} {enc : TypeId × Value → H} {w : World} {r : Reach} {b0 base : Nat} {held : Bool} {v : Value} {d : DataW H} {p : List MemPlace}
    (hv : Value.okWide Try.prog w r b0 33 v) (h : DataW.Trod enc Try.prog w base (fun _ => true) held 33 v d p) : ∃ s, SOk s ∧ v = sv s := by
  obtain ⟨v0, v1, y0, y1, n, rfl, _, _, h0, h1⟩ := Joins.open_agg2 Try.underlying33 (by kernel_rfl) (by kernel_rfl) hv h
  obtain ⟨n0, e0, _, w0⟩ := DataW.trod_int Try.underlying2 h0
  obtain ⟨n1, e1, _, w1⟩ := DataW.trod_int Try.underlying3 h1
  simp at e0 e1
  subst e0 e1
  exact ⟨(n0, n1), ⟨wf_i64 w0, wf_i64 w1⟩, rfl⟩
set_option maxRecDepth 100000 in
theorem bytes_of {H : Type} {enc : TypeId × Value → H} {w : World} {r : Reach} {b0 base : Nat} {held : Bool} {v : Value} {d : DataW H} {p : List MemPlace}
    (hv : Value.okWide Try.prog w r b0 34 v) (h : DataW.Trod enc Try.prog w base (fun _ => true) held 34 v d p) : ∃ l, Rd w v l := by
  obtain ⟨a0, len0, cap0, rfl⟩ := okWide_slice Try.underlying34 hv
  obtain ⟨fuel, hf⟩ := h
  rcases open_ints Try.underlying34 Try.underlying5 (by kernel_rfl) hf with ⟨hcs, _⟩ | ⟨x, l, c, zs, hcs, _, hl, hm, hz, _, hcell, hwz⟩
  · simp [Value.cells] at hcs
    obtain ⟨rfl, rfl, rfl⟩ := hcs
    exact ⟨[], rd_nil w⟩
  · simp [Value.cells] at hcs
    obtain ⟨rfl, rfl, rfl⟩ := hcs
    exact ⟨_, rd_of_row (.inr ⟨_, rfl, hl, hm, by simpa using hz, hcell, hwz⟩)⟩
end
end
end

section
set_option linter.unusedVariables false
set_option linter.unusedSimpArgs false
set_option synthInstance.maxSize 20000
set_option maxHeartbeats 2000000
set_option maxRecDepth 20000
open Go.RowKit Go.Maps

open Go.ChangeShapes Go.WideShapes Go.ChangeAt
theorem list7 {α : Type} {xs : List α} (h : xs.length = 7) : ∃ c0 c1 c2 c3 c4 c5 c6, xs = [c0, c1, c2, c3, c4, c5, c6] := by
  match xs, h with
  | [c0, c1, c2, c3, c4, c5, c6], _ => exact ⟨c0, c1, c2, c3, c4, c5, c6, rfl⟩
theorem list10 {α : Type} {xs : List α} (h : xs.length = 10) : ∃ c0 c1 c2 c3 c4 c5 c6 c7 c8 c9, xs = [c0, c1, c2, c3, c4, c5, c6, c7, c8, c9] := by
  match xs, h with
  | [c0, c1, c2, c3, c4, c5, c6, c7, c8, c9], _ => exact ⟨c0, c1, c2, c3, c4, c5, c6, c7, c8, c9, rfl⟩
structure QIn (w : World) (q : OpT) : Prop where
  k : I64 q.k
  a : SOk q.a
  n : SOk q.n
  p : SOk q.p
  rd : Rd w q.v q.b
section
variable {H : Type} {enc : TypeId × Value → H} {w : World} {base : Nat} {held : Bool}
set_option maxRecDepth 100000 in
theorem stamp_cells {fuel : Nat} {c0 c1 : Value} {y : DataW H × List MemPlace} (h : DataW.trod enc Try.prog w base (fun _ => true) held fuel 33 [c0, c1] = some y) : ∃ s, [c0, c1] = sc s ∧ SOk s := by
  obtain ⟨z0, z1, m, _, _, s0, s1⟩ := trod_struct2 Try.underlying33 h
  have s0' : DataW.trod enc Try.prog w base (fun _ => true) held m 2 [c0] = some z0 := s0
  have s1' : DataW.trod enc Try.prog w base (fun _ => true) held m 3 [c1] = some z1 := s1
  obtain ⟨n3, e3, _, w3⟩ := DataW.trod_int Try.underlying2 s0'
  obtain ⟨n4, e4, _, w4⟩ := DataW.trod_int Try.underlying3 s1'
  simp at e3 e4
  subst e3 e4
  exact ⟨(n3, n4), rfl, ⟨wf_i64 w3, wf_i64 w4⟩⟩
set_option maxRecDepth 100000 in
theorem op_cells {fuel : Nat} {cs : List Value} {y : DataW H × List MemPlace} (hl : cs.length = 10) (hf : DataW.trod enc Try.prog w base (fun _ => true) held fuel 36 cs = some y) : ∃ q, cs = oc q ∧ QIn w q := by
  obtain ⟨c0, c1, c2, c3, c4, c5, c6, c7, c8, c9, rfl⟩ := list10 hl
  obtain ⟨xs, n, _, hx, _, hlen, hg⟩ := DataW.trod_struct Try.underlying36 hf
  obtain ⟨y0, y1, y2, y3, y4, y5, y6, rfl⟩ := list7 (hlen.trans (by rfl))
  have g0 : DataW.trod enc Try.prog w base (fun _ => true) held n 3 [c0] = some y0 := hg 0 _ rfl
  have g1 : DataW.trod enc Try.prog w base (fun _ => true) held n 33 [c1, c2] = some y1 := hg 1 _ rfl
  have g2 : DataW.trod enc Try.prog w base (fun _ => true) held n 33 [c3, c4] = some y2 := hg 2 _ rfl
  have g3 : DataW.trod enc Try.prog w base (fun _ => true) held n 33 [c5, c6] = some y3 := hg 3 _ rfl
  have g4 : DataW.trod enc Try.prog w base (fun _ => true) held n 4 [c7] = some y4 := hg 4 _ rfl
  have g5 : DataW.trod enc Try.prog w base (fun _ => true) held n 9 [c8] = some y5 := hg 5 _ rfl
  have g6 : DataW.trod enc Try.prog w base (fun _ => true) held n 34 [c9] = some y6 := hg 6 _ rfl
  obtain ⟨n0, e0, _, w0⟩ := DataW.trod_int Try.underlying3 g0
  obtain ⟨s1, e1, o1⟩ := stamp_cells g1
  obtain ⟨s2, e2, o2⟩ := stamp_cells g2
  obtain ⟨s3, e3, o3⟩ := stamp_cells g3
  obtain ⟨d, e4, _⟩ := DataW.trod_bool Try.underlying4 g4
  obtain ⟨s, e5, _, _⟩ := DataW.trod_string Try.underlying9 g5
  have hb : ∃ a vn vc l, c9 = .slice a vn vc ∧ Rd w (.slice a vn vc) l := by
    rcases open_ints Try.underlying34 Try.underlying5 (by kernel_rfl) g6 with ⟨hcs, _⟩ | ⟨x, l, c, zs, hcs, _, hl2, hm, hz, _, hcell, hwz⟩
    · simp at hcs
      subst hcs
      exact ⟨none, 0, 0, [], rfl, rd_nil w⟩
    · simp at hcs
      subst hcs
      exact ⟨_, _, _, _, rfl, rd_of_row (.inr ⟨_, rfl, hl2, hm, by simpa using hz, hcell, hwz⟩)⟩
  obtain ⟨a, vn, vc, l, rfl, hr⟩ := hb
  simp at e0 e4 e5
  simp only [sc, List.cons.injEq, and_true] at e1 e2 e3
  obtain ⟨rfl, rfl⟩ := e1
  obtain ⟨rfl, rfl⟩ := e2
  obtain ⟨rfl, rfl⟩ := e3
  subst e0 e4 e5
  exact ⟨⟨n0, s1, s2, s3, d, s, a, vn, vc, l⟩, rfl, ⟨wf_i64 w0, o1, o2, o3, hr⟩⟩
end
set_option maxRecDepth 100000 in
theorem op_of {H : Type} {enc : TypeId × Value → H} {w : World} {r : Reach} {b0 base : Nat} {held : Bool} {v : Value} {d : DataW H} {p : List MemPlace}
    (hv : Value.okWide Try.prog w r b0 36 v) (h : DataW.Trod enc Try.prog w base (fun _ => true) held 36 v d p) : ∃ q, v = ov q ∧ QIn w q := by
  obtain ⟨cs, rfl, hsz⟩ := okWide_struct Try.underlying36 hv
  obtain ⟨fuel, hf⟩ := h
  have hf : DataW.trod enc Try.prog w base (fun _ => true) held fuel 36 cs.toList = some (d, p) := hf
  obtain ⟨q, hq, hi⟩ := op_cells (by have := hsz.trans (by kernel_rfl : Try.prog.cellsOf 36 = 10); simpa using this) hf
  refine ⟨q, ?_, hi⟩
  unfold ov
  rw [← hq]
set_option maxRecDepth 100000 in
theorem opl_of {H : Type} {enc : TypeId × Value → H} {w : World} {r : Reach} {b0 base : Nat} {held : Bool} {v : Value} {d : DataW H} {p : List MemPlace}
    (hv : Value.okWide Try.prog w r b0 22 v) (h : DataW.Trod enc Try.prog w base (fun _ => true) held 22 v d p) : ∃ l, RowF oc w v l ∧ ∀ q ∈ l, QIn w q := by
  obtain ⟨a0, len0, cap0, rfl⟩ := okWide_slice Try.underlying22 hv
  obtain ⟨fuel, hf⟩ := h
  have : Inhabited OpT := ⟨oz⟩
  exact rows_of (f := oc) oc_len (by omega) Try.underlying22 (by kernel_rfl) (QIn w) (fun n cs y hl hy => op_cells hl hy) hf
end
end Go.Proofs.Ythnjbjlhfohpfaa
