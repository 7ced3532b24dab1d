/-
  Trees that are alike, by the program.
  The reference's Set.
  The reference's Name and Right.
  The reference's place and Right.
  The reference's Right.
-/
import Derived.Test.YthnjbjlhfohpfaaUdN
import Derived.Test.YthnjbjlhfohpfaaTrP
import Derived.Test.YthnjbjlhfohpfaaTrU
import Derived.Test.YthnjbjlhfohpfaaRgt
import Derived.Test.YthnjbjlhfohpfaaWirP
import Derived.Test.YthnjbjlhfohpfaaTsA
namespace Go.Proofs.Ythnjbjlhfohpfaa
section
set_option linter.unusedVariables false
set_option linter.unusedSimpArgs false
set_option synthInstance.maxSize 20000
set_option maxHeartbeats 2000000
set_option maxRecDepth 20000
open Go.RowKit Go.Maps

theorem alike54 {x y : IT} {w : World} (hx : Rd w x.v x.m.b) (hy : Rd w y.v y.m.b) (e : x.m = y.m) : Calls Try.prog 40 #[iv x, iv y] w fun e w' => e = .returned (.bool true) ∧ Below w.heap.size w w' := by
  have HE : Hid (∀ w', Below w.heap.size w w' → Calls Try.prog 65 #[x.v, y.v] w' fun e w'' => e = .returned (.bool true) ∧ w'' = w') := fun w' h => by
    have := equal_any x.v y.v x.m.b y.m.b w' (hx.below h) (hy.below h)
    rw [e, decide_eq_true (show y.m.b = y.m.b from rfl)] at this
    exact this
  clear hx hy
  obtain ⟨⟨⟨n1, n2⟩, ⟨p1, p2⟩, s, d, g, ⟨y1, y2⟩, b⟩, a, vn, vc⟩ := x
  obtain ⟨m, a', vn', vc'⟩ := y
  dsimp only at e
  subst e
  unfold IT.v at HE
  unfold iv ic
  dsimp only at HE ⊢
  have HB0 : Hid (Below w.heap.size w ((w.alloc (.cells #[.int .i64 n1, .int .i64 n2, .int .i64 p1, .int .i64 p2, .string s, .bool d, .bool g, .slice a vn vc, .int .i64 y1, .int .i64 y2] 59)).alloc (.cells #[.int .i64 n1, .int .i64 n2, .int .i64 p1, .int .i64 p2, .string s, .bool d, .bool g, .slice a' vn' vc', .int .i64 y1, .int .i64 y2] 59))) := (show Below _ _ _ from balloc (balloc (Below.refl _ _) _) _)
  go_enter Try.func40, Try.ntmps40
  go_wp2_with (go_at_call 65; go_must (refine (HE.out _ HB0.out).mono ?_; rintro e w2 ⟨rfl, hw⟩; replace hw := hw.symm; subst hw))
  go_ret
  exact ⟨rfl, HB0.out⟩
section
variable {w : World} {ta tb : Nat} {mo mo2 : Option Nat} {A B : List IT}
theorem PTr.lenrun (h : PTr w tb mo A) (ty : TypeId) : (Builtin.len_ #[82] ty #[.map mo]).run Try.prog w = .ok (.int .i64 (A.length : Int)) w := by
  rcases h.mp with ⟨rfl, rfl⟩ | ⟨mb, rfl, hm⟩
  · simp [Builtin.len_, run_underlying under68, goInt]
  · exact hm.len ty
theorem eqf53n (hA : PTr w ta mo A) (hB : PTr w tb mo2 B) (h : A.length ≠ B.length) : Calls Try.prog 39 #[.map mo, .map mo2, .func (.func 40) #[] #[]] w fun e w' => e = .returned (.bool false) ∧ w' = w := by
  have l1 := fun ty => hA.lenrun ty
  have l2 := fun ty => hB.lenrun ty
  have hne : ((A.length : Int) != (B.length : Int)) = true := by
    simp only [bne_iff_ne, ne_eq]
    omega
  clear hA hB h
  go_enter Try.func39, Try.ntmps39
  go_wp2
  go_ret
  exact ⟨rfl, rfl⟩
set_option maxHeartbeats 8000000 in
theorem eqf53y (hA : PTr w ta mo A) (hB : PTr w tb mo2 B) (h : A.map IT.m = B.map IT.m) : Calls Try.prog 39 #[.map mo, .map mo2, .func (.func 40) #[] #[]] w fun e w' => e = .returned (.bool true) ∧ Below w.heap.size w w' := by
  have HA : Hid (PTr w ta mo A) := hA
  have HBt : Hid (PTr w tb mo2 B) := hB
  have HE : Hid (A.map IT.m = B.map IT.m) := h
  have l1 := fun ty => hA.lenrun ty
  have l2 := fun ty => hB.lenrun ty
  have hlen : A.length = B.length := by have := congrArg List.length h; simpa using this
  rw [← hlen] at l2
  have hne : ((A.length : Int) != (A.length : Int)) = false := by simp
  obtain ⟨w1, hrun, hit, hg1, hs1⟩ := hA.range
  have HRUN : Hid ((Instr.range 82 (.map mo)).run Try.prog w = .ok (.pointer (some ⟨w.heap.size, 0, none⟩)) w1) := hrun
  have HIT1 : Hid (ItT w1 mo w.heap.size A []) := hit
  have HB1 : Hid (Below w.heap.size w w1) := grown_below hg1
  obtain ⟨r, hr⟩ : ∃ r, r = w.heap.size := ⟨_, rfl⟩
  have HR : Hid (w.heap.size ≤ r) := by show _ ≤ _; omega
  rw [← hr] at HIT1 HRUN
  clear hA hB h hlen hrun hit hg1 hs1
  go_enter Try.func39, Try.ntmps39
  go_wp2_with (refine wpList_okw rfl (exec_range (mo := mo) (.tmp 16) rfl rfl HRUN.out) ?_)
  go_frame
  clear hr HRUN l1 l2 hne
  go_loopw [6] (fun v wr => ∃ done, Hid (ItT wr mo r A done) ∧ Hid (Below w.heap.size w wr)) (fun _ wr => itLeft wr mo r)
  case atStart => exact ⟨[], HIT1, HB1⟩
  case round =>
    obtain ⟨done, HIT, HB⟩ := hrel
    clear HIT1 HB1
    rename World => wr
    have hokL := HA.out.okL
    have hsrt := HA.out.srt
    rcases HIT.out.next hokL hsrt 0 with ⟨hall, hrun⟩ | ⟨x, w2, hx, hnx, hrun, hit2, hlt, hg2, hsz, hen⟩
    · have HRUN : Hid ((Instr.next (.pointer (some ⟨r, 0, none⟩)) false 0).run Try.prog wr = .ok (.tuple #[.bool false]) wr) := hrun
      clear hokL hsrt hall hrun
      have tk1 : Hid True := trivial
      go_wp2_with (clear tk1; refine wpList_okw rfl (exec_next (.tmp 17) rfl rfl HRUN.out) ?_)
      go_ret
      exact ⟨rfl, HB.out⟩
    · have HRUN : Hid ((Instr.next (.pointer (some ⟨r, 0, none⟩)) false 0).run Try.prog wr = .ok (.tuple #[.bool true, sv x.m.n, iv x]) w2) := hrun
      have HEN : Hid ((Instr.entry (.pointer (some ⟨r, 0, none⟩))).run Try.prog w2 = .ok (.tuple #[sv x.m.n, iv x]) w2) := hen
      have HIT2 : Hid (ItT w2 mo r A (done ++ [x])) := hit2
      have HX : Hid (x ∈ A) := hx
      have HLT : Hid (itLeft w2 mo r < itLeft wr mo r) := hlt
      have HB2 : Hid (Below w.heap.size w w2) := bgrown HB.out HR.out hg2
      have hno : SOk x.m.n := (HA.out.ok x hx).1
      obtain ⟨y, b, hlook, hgot⟩ := HBt.out.look hno
      have hmem : x.m ∈ B.map IT.m := by rw [← HE.out]; exact List.mem_map.2 ⟨x, hx, rfl⟩
      have hf : findM (B.map IT.m) x.m.n = some x.m := findM_of HBt.out.srt hmem
      have hb : b = true := by have := hgot.is; rw [hf] at this; exact this
      subst hb
      have HYM : Hid (x.m = y.m) := by show _ = _; have := hgot.m; rw [hf] at this; exact this.symm
      have HRy : Hid (Rd w y.v y.m.b) := hgot.rd
      have HLook : Hid (∀ w', Below w.heap.size w w' → (Instr.lookup 82 (.map mo2) (sv x.m.n) true).run Try.prog w' = .ok (.tuple #[iv y, .bool true]) w') := hlook
      clear hokL hsrt hx hnx hrun hit2 hlt hg2 hsz hen HIT HB hno hlook hgot hmem hf
      obtain ⟨w3, hw3⟩ : ∃ w3, w3 = w2.alloc (.cells (sc (0, 0)).toArray 33) := ⟨_, rfl⟩
      obtain ⟨B3, hB3⟩ : ∃ B3, B3 = w2.heap.size := ⟨_, rfl⟩
      obtain ⟨w4, hw4⟩ : ∃ w4, w4 = w3.alloc (.cells (ic zT).toArray 59) := ⟨_, rfl⟩
      obtain ⟨B4, hB4⟩ : ∃ B4, B4 = w3.heap.size := ⟨_, rfl⟩
      obtain ⟨w5, hw5⟩ : ∃ w5, w5 = w4.setCells B3 0 (sc x.m.n) := ⟨_, rfl⟩
      obtain ⟨w6, hw6⟩ : ∃ w6, w6 = w5.setCells B4 0 (ic x) := ⟨_, rfl⟩
      have a3 : Blk w3 B3 33 (sc (0, 0)) := by rw [hw3, hB3]; exact blk_new w2 _ 33
      have a4 : Blk w4 B3 33 (sc (0, 0)) := by rw [hw4]; exact a3.alloc _
      have b4 : Itp w4 B4 zT := by rw [hw4, hB4]; exact itp_new w3 zT
      have hne : B3 ≠ B4 := by have := a3.lt; omega
      have a5 : Blk w5 B3 33 (sc x.m.n) := by rw [hw5]; exact Blk.put2 a4
      have b5 : Itp w5 B4 zT := by rw [hw5]; exact Blk.past b4 (grown_setCells _ _ _ _) hne.symm
      have a6 : Blk w6 B3 33 (sc x.m.n) := by rw [hw6]; exact a5.past (grown_setCells _ _ _ _) hne
      have b6 : Itp w6 B4 x := by rw [hw6]; exact Itp.put b5 x
      have c3 : Below w2.heap.size w2 w3 := by rw [hw3]; exact balloc (Below.refl _ _) _
      have c4 : Below w2.heap.size w2 w4 := by rw [hw4]; exact balloc c3 _
      have c5 : Below w2.heap.size w2 w5 := by rw [hw5]; exact below_put c4 (by omega)
      have c6 : Below w2.heap.size w2 w6 := by rw [hw6]; exact below_put c5 (by have := c3.size; omega)
      have HT4 : Hid (w4.there B3 0 2) := a4.there 0 2 (by simp [sc])
      have HT5 : Hid (w5.there B4 0 10) := Itp.there b5
      have HA6 : Hid (w6.rangeAt B3 0 (sc x.m.n)) := a6.range0
      have HI6 : Hid (Itp w6 B4 x) := b6
      have HB6 : Hid (Below w2.heap.size w2 w6) := c6
      have HW3 : Hid (w3 = w2.alloc (.cells (sc (0, 0)).toArray 33)) := hw3
      have HB3 : Hid (B3 = w2.heap.size) := hB3
      have HW4 : Hid (w4 = w3.alloc (.cells (ic zT).toArray 59)) := hw4
      have HB4 : Hid (B4 = w3.heap.size) := hB4
      have HW5 : Hid (w5 = w4.setCells B3 0 (sc x.m.n)) := hw5
      have HW6 : Hid (w6 = w5.setCells B4 0 (ic x)) := hw6
      have HBx : Hid (Below w.heap.size w w6) := bnext HB2.out c6
      clear hw3 hB3 hw4 hB4 hw5 hw6 a3 a4 b4 hne a5 b5 a6 b6 c3 c4 c5 c6
      obtain ⟨w7, hw7⟩ : ∃ w7, w7 = w6.alloc (.cells (ic zT).toArray 59) := ⟨_, rfl⟩
      obtain ⟨g, hg⟩ : ∃ g, g = w6.heap.size := ⟨_, rfl⟩
      obtain ⟨w8, hw8⟩ : ∃ w8, w8 = w7.setCells g 0 (ic y) := ⟨_, rfl⟩
      obtain ⟨j1, j2, j3, j4⟩ := item_putp HBx.out hw7 hg hw8
      have HT7 : Hid (w7.there g 0 10) := (show _ from by rw [hw7, hg]; exact (itp_new w6 zT).there)
      have HI8 : Hid (Itp w8 g y) := j1
      have HB8 : Hid (Below w.heap.size w w8) := j2
      have HB68 : Hid (Below w6.heap.size w6 w8) := j3
      have HW7 : Hid (w7 = w6.alloc (.cells (ic zT).toArray 59)) := hw7
      have HGG : Hid (g = w6.heap.size) := hg
      have HW8 : Hid (w8 = w7.setCells g 0 (ic y)) := hw8
      have HRx8 : Hid (w8.rangeAt B4 0 (ic x)) := Itp.range (HI6.out.below j3)
      have HRy8 : Hid (w8.rangeAt g 0 (ic y)) := j1.range
      have HAl : Hid (Calls Try.prog 40 #[iv x, iv y] w8 fun e w' => e = .returned (.bool true) ∧ Below w8.heap.size w8 w') := alike54 ((HA.out.rd x HX.out).below j2) (HRy.out.below j2) HYM.out
      clear j1 j2 j3 j4 hw7 hg hw8
      have tk1 : Hid True := trivial
      have tk2 : Hid True := trivial
      have tk3 : Hid True := trivial
      have tk4 : Hid True := trivial
      have tk5 : Hid True := trivial
      have tk6 : Hid True := trivial
      have tk7 : Hid True := trivial
      have tk8 : Hid True := trivial
      have tk9 : Hid True := trivial
      have tka : Hid True := trivial
      have tkb : Hid True := trivial
      have tkc : Hid True := trivial
      go_wp2_with (first
        | (clear tk1; refine wpList_okw rfl (exec_next (.tmp 17) rfl rfl HRUN.out) ?_)
        | (clear tk2; refine wpList_okw rfl (exec_entry (.tmp 17) rfl rfl HEN.out) ?_)
        | (clear tk3; refine wpList_okw rfl (exec_alloc24 rfl) ?_; rw [← HW3.out, ← HB3.out])
        | (clear tk4; refine wpList_okw rfl (exec_alloc35 rfl) ?_; rw [← HW4.out, ← HB4.out])
        | (clear tk5; refine wpList_skipw rfl (exec_store24n (n := x.m.n) (.tmp 7) (.tmp 21) rfl rfl rfl HT4.out) ?_; rw [← HW5.out])
        | (clear tk6; refine wpList_skipw rfl (exec_store35 (q := x) (.tmp 8) (.tmp 22) rfl rfl rfl HT5.out) ?_; rw [← HW6.out])
        | (clear tk7; refine wpList_okw rfl (exec_load24n (n := x.m.n) (.tmp 7) rfl rfl HA6.out) ?_)
        | (clear tk8; refine wpList_okw rfl (exec_look (n := x.m.n) (.tmp 24) (.tmp 25) rfl rfl rfl (HLook.out _ HBx.out)) ?_)
        | (clear tk9; refine wpList_okw rfl (exec_alloc35 rfl) ?_; rw [← HW7.out, ← HGG.out])
        | (clear tka; refine wpList_skipw rfl (exec_store35 (q := y) (.tmp 9) (.tmp 27) rfl rfl rfl HT7.out) ?_; rw [← HW8.out])
        | (clear tkb; refine wpList_okw rfl (exec_load35 (q := x) (.tmp 8) rfl rfl HRx8.out) ?_)
        | (clear tkc; refine wpList_okw rfl (exec_load35 (q := y) (.tmp 9) rfl rfl HRy8.out) ?_)
        | (go_at_call 40; go_must (refine HAl.out.mono ?_; rintro e w9 ⟨rfl, hb9⟩; have HB9 : Hid (Below w8.heap.size w8 w9) := hb9; clear hb9)))
      have hbz := bnext HB6.out (bnext HB68.out HB9.out)
      go_roundw
      case rel => exact ⟨done ++ [x], (HIT2.out.below hbz).1, bnext HB2.out hbz⟩
      case measure => rw [(HIT2.out.below hbz).2]; exact HLT.out
theorem same29 (hA : PTr w ta mo A) (hB : PTr w tb mo2 B) (R : Bool) (hf : ∀ w', Below w.heap.size w w' → Calls Try.prog 39 #[.map mo, .map mo2, .func (.func 40) #[] #[]] w' fun e w'' => e = .returned (.bool R) ∧ Below w'.heap.size w' w'') : Calls Try.prog 15 #[ptr ta, ptr tb] w fun e w' => e = .returned (.bool R) ∧ Below w.heap.size w w' := by
  have HF : Hid (∀ w', Below w.heap.size w w' → Calls Try.prog 39 #[.map mo, .map mo2, .func (.func 40) #[] #[]] w' fun e w'' => e = .returned (.bool R) ∧ Below w'.heap.size w' w'') := hf
  have ca := fun z : WIn (fun w' => Below w.heap.size w w') => (hA.below z.ok).blk.cell 0 _ rfl
  have cb := fun z : WIn (fun w' => Below w.heap.size w w') => (hB.below z.ok).blk.cell 0 _ rfl
  clear hA hB hf
  go_enter Try.func15, Try.ntmps15
  go_upto_region 3 with fail
  have ne : Nonempty (WIn (fun w' => Below w.heap.size w w')) := ⟨⟨w.drew, below_drewn w 1⟩⟩
  refine wp_region_ord (C := fun w' => ∃ z : WIn (fun w' => Below w.heap.size w w'), w' = z.w) [(false, 0), (false, 1), (false, 2), (false, 3), (false, 4), (false, 5), (false, 6), (false, 7), (true, 8), (false, 9)] (by kernel_rfl) (by kernel_rfl) ⟨⟨w.drew, below_drewn w 1⟩, rfl⟩ ?_
  iterate 8 (refine ord_still rfl rfl ?_; go_big_quiet_step (fail); refine wpQuiet_nil ?_)
  refine ord_mem rfl rfl ?_
  go_simp
  refine (HF.out _ (below_drewn w 1)).mono ?_
  rintro r w2 ⟨rfl, hb⟩
  have HB2 : Hid (Below w.heap.size w w2) := bnext (below_drewn w 1) hb
  clear hb
  refine ⟨⟨⟨w2, HB2.out⟩, rfl⟩, ?_⟩
  go_simp
  iterate 1 (refine ord_still rfl rfl ?_; go_big_quiet_step (fail); refine wpQuiet_nil ?_)
  refine ord_end ?_
  clear ne
  clear ca cb
  go_wp2
  go_ret
  exact ⟨rfl, HB2.out⟩
theorem same29y (hA : PTr w ta mo A) (hB : PTr w tb mo2 B) (h : A.map IT.m = B.map IT.m) : Calls Try.prog 15 #[ptr ta, ptr tb] w fun e w' => e = .returned (.bool true) ∧ Below w.heap.size w w' :=
  same29 hA hB true fun w' hb => eqf53y (hA.below hb) (hB.below hb) h
theorem same29n (hA : PTr w ta mo A) (hB : PTr w tb mo2 B) (h : A.length ≠ B.length) : Calls Try.prog 15 #[ptr ta, ptr tb] w fun e w' => e = .returned (.bool false) ∧ Below w.heap.size w w' :=
  same29 hA hB false fun w' hb => (eqf53n (hA.below hb) (hB.below hb) h).mono (by rintro e w'' ⟨rfl, rfl⟩; exact ⟨rfl, Below.refl _ _⟩)
end
end

section
set_option linter.unusedVariables false
set_option linter.unusedSimpArgs false
set_option synthInstance.maxSize 20000
set_option maxHeartbeats 2000000
set_option maxRecDepth 20000
open Go.RowKit Go.Maps

theorem exec_ne24 {o : Oper} {r : Operand → Value} {w : World} {a b : S} (x y : Operand) (ho : o.op = .binOp .neq 33 x y 33) (hx : r x = sv a) (hy : r y = sv b) : (execOp r o).run Try.prog w = .ok (.value (.bool (!decide (a = b)))) w := by
  obtain ⟨a1, a2⟩ := a
  obtain ⟨b1, b2⟩ := b
  unfold sv at hx hy
  dsimp only at hx hy
  have e : decide ((a1, a2) = (b1, b2)) = (a1 == b1 && a2 == b2) := by
    by_cases h1 : a1 = b1 <;> by_cases h2 : a2 = b2 <;> simp [h1, h2]
  rw [e]
  unfold execOp
  simp only [ho]
  go_simp
  by_cases h1 : a1 = b1 <;> by_cases h2 : a2 = b2 <;> simp [h1, h2]
theorem exec_store30 {o : Oper} {r : Operand → Value} {w : World} {b off : Nat} {a : Option Addr} {n c : Nat} {u : Value} (x y : Operand) (ho : o.op = .store 51 x y) (hx : r x = .pointer (some ⟨b, off, none⟩)) (hy : r y = .slice a n c) (hc : w.cell? ⟨b, off, none⟩ = some u) (hf : w.frozen? ⟨b, off, none⟩ = false) : (execOp r o).run Try.prog w = .ok .skip (w.setCell ⟨b, off, none⟩ (.slice a n c)) := by
  unfold execOp
  simp only [ho]
  go_simp
theorem range_node {w : World} {b off : Nat} {x : IT} (h : w.rangeAt b off (ic x)) : w.rangeAt b off (sc x.m.n) := by
  intro j u hj
  match j, hj with
  | 0, hj => exact h 0 u hj
  | 1, hj => exact h 1 u hj
  | j + 2, hj => simp [sc] at hj
theorem OwnT.at_drew {B : Nat} {wa wz : World} {v : Value} {O : List IT} (ho : OwnT B wa v O) (h : wz = wa.drew) : OwnT B wz v O := by
  rw [h]
  exact ho.below (below_drewn wa 1)
end

section
set_option linter.unusedVariables false
set_option linter.unusedSimpArgs false
set_option synthInstance.maxSize 20000
set_option maxHeartbeats 2000000
set_option maxRecDepth 20000
open Go.RowKit Go.Maps

theorem bar_iff (n : Nat) : bar n = true ↔ n < 32 ∨ n = 127 ∨ n = 47 ∨ n = 126 := by
  unfold bar
  simp [or_assoc]
end

section
set_option linter.unusedVariables false
set_option linter.unusedSimpArgs false
set_option synthInstance.maxSize 20000
set_option maxHeartbeats 2000000
set_option maxRecDepth 20000
open Go.RowKit Go.Maps

theorem wpList_okx {P : Program} {w w' : World} {ops : Array Oper} {rest : List Oper} {o : Oper} {a : Act} {Q : Exit → Act → World → Prop} {v : Value} (hr : (execOp a.eval o).run P w = .ok (.value v) w') (hw : Region.wanted o (yielded ops a.tmps) = true) (h : wpList P ops Q rest (a.put o.dst v) w') : wpList P ops Q (o :: rest) a w := wpList_okw hw hr h
theorem sameAt_dec (s t : S) : sameAt s t = decide (s = t) := by
  obtain ⟨a, b⟩ := s
  obtain ⟨c, d⟩ := t
  show (a == c && b == d) = _
  by_cases h1 : a = c <;> by_cases h2 : b = d <;> simp [h1, h2]
def placeB (s : S) : Bool := decide (s = (0, 0)) || rightB s
theorem rightO_form (q : OpT) : rightO q = (rightB q.a && rightB q.n && !(!decide (q.k = 4) && decide (0 < q.vn)) && !(!decide (q.k = 1) && q.d) && (if q.k = 1 then decide (q.n = q.a) && placeB q.p && nameB q.s else if q.k = 2 then placeB q.p && nameB q.s else if q.k = 3 then decide (q.p = (0, 0)) && (q.s.toList == []) else if q.k = 4 then decide (q.p = (0, 0)) && (q.s.toList == []) && decide (q.vn ≤ 400) else false)) := by
  unfold rightO placedB bareB placeB
  simp only [sameAt_dec]
  have e0 : ((q.vn : Int) == 0) = !decide (0 < q.vn) := by
    by_cases h : 0 < q.vn
    · simp [h]; omega
    · have : q.vn = 0 := by omega
      simp [this]
  have e4 : decide ((q.vn : Int) ≤ 400) = decide (q.vn ≤ 400) := by
    by_cases h : q.vn ≤ 400
    · rw [decide_eq_true h, decide_eq_true (by omega)]
    · rw [decide_eq_false h, decide_eq_false (by omega)]
  rw [e0, e4]
  generalize decide (0 < q.vn) = v0
  generalize decide (q.vn ≤ 400) = v4
  generalize decide (q.p = (0, 0)) = z
  generalize rightB q.p = rp
  generalize nameB q.s = nm
  generalize (q.s.toList == []) = em
  generalize q.d = d
  by_cases k1 : q.k = 1
  · simp only [k1, if_pos rfl, decide_true]
    by_cases e : q.n = q.a
    · rw [e]
      simp only [decide_true]
      generalize rightB q.a = ra
      revert v0 v4 z rp nm em d ra
      decide
    · rw [decide_eq_false e]
      simp
  · by_cases k2 : q.k = 2
    · simp only [k1, k2, if_pos rfl]
      generalize rightB q.a = ra
      generalize rightB q.n = rn
      generalize decide (q.n = q.a) = e1
      revert v0 v4 z rp nm em d ra rn e1
      decide
    · by_cases k3 : q.k = 3
      · simp only [k1, k2, k3, if_pos rfl]
        generalize rightB q.a = ra
        generalize rightB q.n = rn
        generalize decide (q.n = q.a) = e1
        revert v0 v4 z rp nm em d ra rn e1
        decide
      · by_cases k4 : q.k = 4
        · simp only [k1, k2, k3, k4, if_pos rfl]
          generalize rightB q.a = ra
          generalize rightB q.n = rn
          generalize decide (q.n = q.a) = e1
          revert v0 v4 z rp nm em d ra rn e1
          decide
        · simp [k1, k2, k3, k4]
end

section
set_option linter.unusedVariables false
set_option linter.unusedSimpArgs false
set_option synthInstance.maxSize 20000
set_option maxHeartbeats 2000000
set_option maxRecDepth 20000
open Go.RowKit Go.Maps
end
end Go.Proofs.Ythnjbjlhfohpfaa
