/-
  The program's Get; what takes others.
  Going up to parents: leads, with either closure.
-/
import Derived.Test.YthnjbjlhfohpfaaGreatTrU
namespace Go.Proofs.YthnjbjlhfohpfaaGreat
section
set_option linter.unusedVariables false
set_option linter.unusedSimpArgs false
set_option synthInstance.maxSize 20000
set_option maxHeartbeats 2000000
set_option maxRecDepth 20000
open Go.RowKit Go.Maps

section
variable {w : World} {tb : Nat} {mo : Option Nat} {L : List IT} {n : S}
theorem GotT.fine {w w1 : World} {tb : Nat} {mo : Option Nat} {L : List IT} {n : S} {x : IT} {b : Bool} (h : PTr w tb mo L) (hg : GotT w1 L n x b) : x.m.b.length ≤ 1000 ∧ SOk x.m.n ∧ SOk x.m.p := by
  cases b with
  | false =>
    rw [hg.no rfl]
    have hz : SOk (0, 0) := by unfold SOk I64; omega
    exact ⟨Nat.zero_le _, hz, hz⟩
  | true =>
    have := h.ok x (hg.mem rfl).1
    exact ⟨this.2.2, this.1, this.2.1⟩
theorem results19 : Tryz.f21.results = #[.cell 4 61, .tmp 5] := rfl
theorem Itp.ret19 {w : World} {b : Nat} {q : IT} {k : Value} {tmps : Array Value} (h : Itp w b q) (h1 : tmps.getD 4 undef = ptr b) (h2 : tmps.getD 5 undef = k) : (results Tryz.f21 tmps).run Tryz.prog w = .ok (.tuple #[iv q, k]) w := by
  rw [results_cell_tmp results19, h1, h2]
  have e1 : (asAddr (ptr b)).run Tryz.prog w = .ok ⟨b, 0, none⟩ w := rfl
  rw [e1]
  simp only [Result.andThen_ok, h.load]
/-- What Get answers: a copy. -/
structure GotC (B : Nat) (w : World) (L : List IT) (n : S) (x : IT) (b : Bool) : Prop where
  is : b = (findM (L.map IT.m) n).isSome
  m : x.m = (findM (L.map IT.m) n).getD zM
  own : Own B 5 w x.v x.m.b
theorem GotC.below {B : Nat} {w w' : World} {L : List IT} {n : S} {x : IT} {b : Bool} (h : GotC B w L n x b) (hb : Below w.heap.size w w') : GotC B w' L n x b := ⟨h.is, h.m, ⟨h.own.1, ownsRow_block h.own.2 fun k hk => hb.block _ (h.own.2.lt k hk).2⟩⟩
theorem GotC.rd {B : Nat} {w : World} {L : List IT} {n : S} {x : IT} {b : Bool} (h : GotC B w L n x b) : Rd w x.v x.m.b := h.own.rd
theorem get19 (h : PTr w tb mo L) (hn : SOk n) : Calls Tryz.prog 21 #[ptr tb, sv n] w fun e w' => ∃ x b, e = .returned (.tuple #[iv x, .bool b]) ∧ GotC w.heap.size w' L n x b ∧ Below w.heap.size w w' := by
  have HF : Hid (∀ w', Below w.heap.size w w' → Calls Tryz.prog 40 #[ptr tb, sv n] w' (GetAns w' L n)) := fun w' hb => look42 (h.below hb) hn
  have HH : Hid (PTr w tb mo L) := h
  clear h
  obtain ⟨w1, hw1⟩ : ∃ w1, w1 = (w.alloc (.cells (sc n).toArray 35)).alloc (.cells (ic zT).toArray 61) := ⟨_, rfl⟩
  obtain ⟨B0, hB0⟩ : ∃ B0, B0 = w.heap.size := ⟨_, rfl⟩
  obtain ⟨B1, hB1⟩ : ∃ B1, B1 = w.heap.size + 1 := ⟨_, rfl⟩
  obtain ⟨i1, i2, i3, i4⟩ := two_new hw1 hB0 hB1
  have HB1 : Hid (Below w.heap.size w w1) := i1
  have HX : Hid (w1.rangeAt B0 0 (sc n)) := i2.range0
  have HZ : Hid (Itp w1 B1 zT) := i3
  have HBB : Hid (w.heap.size ≤ B1) := i4
  clear i1 i2 i3 i4
  go_enter Tryz.func21, Tryz.ntmps21
  go_upto_region 1 with (first | (refine wpList_okw rfl (exec_box24 (n := n) (.tmp 1) rfl rfl) ?_) | (refine wpList_okw rfl (exec_alloc35 rfl) ?_))
  rw [← hw1, ← hB1]
  rw [← hB0]
  clear hw1 hB0 hB1
  go_upto_region 2 with (first
    | (refine wpList_okw rfl (exec_load24n (n := n) (.tmp 3) rfl rfl HX.out) ?_)
    | (go_at_call 40; go_must (refine (HF.out _ HB1.out).mono ?_; rintro r w2 ⟨x, b, rfl, hgt, hb2⟩; have HG : Hid (GotT w2 L n x b) := hgt; have HB12 : Hid (Below w1.heap.size w1 w2) := hb2; have HBz : Hid (Below w.heap.size w w2) := bnext HB1.out hb2; clear hb2 hgt; obtain ⟨w3, hw3⟩ : ∃ w3, w3 = w2.alloc (.cells (ic zT).toArray 61) := ⟨_, rfl⟩; obtain ⟨g, hg⟩ : ∃ g, g = w2.heap.size := ⟨_, rfl⟩; have HT3 : Hid (w3.there g 0 10) := (show _ from by rw [hw3, hg]; exact (itp_new w2 zT).there); have HW3 : Hid (w3 = w2.alloc (.cells (ic zT).toArray 61)) := hw3; have HGG : Hid (g = w2.heap.size) := hg; clear hw3 hg; have tk1 : Hid True := trivial; have tk2 : Hid True := trivial))
    | (clear tk1; refine wpList_okw rfl (exec_alloc35 rfl) ?_; rw [← HW3.out, ← HGG.out])
    | (clear tk2; refine wpList_skipw rfl (exec_store35 (q := x) (.tmp 6) (.tmp 12) rfl rfl rfl HT3.out) ?_; obtain ⟨w4, hw4⟩ : ∃ w4, w4 = w3.setCells g 0 (ic x) := ⟨_, rfl⟩; rw [← hw4]; obtain ⟨i1, i2, i3, i4⟩ := item_putp HBz.out HW3.out HGG.out hw4; have HI4 : Hid (Itp w4 g x) := i1; have HB4 : Hid (Below w.heap.size w w4) := i2; have HB24 : Hid (Below w2.heap.size w2 w4) := i3; have HGL : Hid (w.heap.size ≤ g) := i4; clear hw4 i1 i2 i3 i4 HT3 HW3 HGG))
  have HR4 : Hid (w4.rangeAt g 0 (ic x)) := HI4.out.range
  have HC : Hid (Calls Tryz.prog 41 #[iv x] w4 fun e w' => ∃ y, e = .returned (iv y) ∧ CopyT w4.heap.size w' x y ∧ Below w4.heap.size w4 w') := copied43 x (HG.out.rd.below HB24.out) (HG.out.fine HH.out).1
  have HZ4 : Hid (Itp w4 B1 zT) := HZ.out.below (bnext HB12.out HB24.out)
  have tk3 : Hid True := trivial
  have tk4 : Hid True := trivial
  go_wp2_with (first
    | (clear tk3; refine wpList_okw rfl (exec_load35 (q := x) (.tmp 6) rfl rfl HR4.out) ?_)
    | (go_at_call 41; go_must (refine HC.out.mono ?_; rintro r w5 ⟨y, rfl, hcp, hb5⟩; have HB5 : Hid (Below w.heap.size w w5) := bnext HB4.out hb5; have HZ5 : Hid (Itp w5 B1 zT) := HZ4.out.below hb5; have HCP : Hid (CopyT w4.heap.size w5 x y) := hcp; clear hb5 hcp; have HT5 : Hid (w5.there B1 0 10) := HZ5.out.there))
    | (clear tk4; refine wpList_skipw rfl (exec_store35 (q := y) (.tmp 4) (.tmp 15) rfl rfl rfl HT5.out) ?_))
  have HP : Hid (Itp (w5.setCells B1 0 (ic y)) B1 y) := HZ5.out.put y
  have HBp : Hid (Below w.heap.size w (w5.setCells B1 0 (ic y))) := below_put HB5.out HBB.out
  refine bodyPost_ret (v := .tuple #[iv y, .bool b]) (HP.out.ret19 rfl rfl) rfl ⟨y, b, rfl, ⟨HG.out.is, by rw [HCP.out.m]; exact HG.out.m, ?_⟩, HBp.out⟩
  have hlt : B1 < w4.heap.size := Blk.lt HZ4.out
  exact (own_past HCP.out.own hlt (grown_setCells B1 (ic y) 0 w5)).lower HB4.out.size
theorem takes59 (h : PTr w tb mo L) (hn : SOk n) : Calls Tryz.prog 106 #[ptr tb, sv n] w fun e w' => e = .returned (.bool (dirM (L.map IT.m) n)) ∧ Below w.heap.size w w' := by
  have HF : Hid (∀ w', Below w.heap.size w w' → Calls Tryz.prog 40 #[ptr tb, sv n] w' (GetAns w' L n)) := fun w' hb => look42 (h.below hb) hn
  have HRoot : Hid (∀ w', Calls Tryz.prog 73 #[] w' fun e w'' => e = .returned (sv (0, 0)) ∧ Below w'.heap.size w' w'') := fun w' => root26 w'
  clear h
  obtain ⟨w1, hw1⟩ : ∃ w1, w1 = w.alloc (.cells (sc n).toArray 35) := ⟨_, rfl⟩
  obtain ⟨B0, hB0⟩ : ∃ B0, B0 = w.heap.size := ⟨_, rfl⟩
  obtain ⟨i1, i2⟩ := box_new hw1 hB0
  have HB1 : Hid (Below w.heap.size w w1) := i1
  have HX : Hid (Blk w1 B0 35 (sc n)) := i2
  have HXR : Hid (w1.rangeAt B0 0 (sc n)) := i2.range0
  clear i1 i2
  go_enter Tryz.func106, Tryz.ntmps106
  go_upto_region 1 with (refine wpList_okw rfl (exec_box24 (n := n) (.tmp 1) rfl rfl) ?_)
  rw [← hw1, ← hB0]
  clear hw1 hB0
  go_upto_region 2 with (first
    | (refine wpList_okw rfl (exec_load24n (n := n) (.tmp 3) rfl rfl HXR.out) ?_)
    | (go_at_call 40; go_must (refine (HF.out _ HB1.out).mono ?_; rintro r w2 ⟨x, b, rfl, hgt, hb2⟩; have HG : Hid (GotT w2 L n x b) := hgt; have HB12 : Hid (Below w1.heap.size w1 w2) := hb2; have HBz : Hid (Below w.heap.size w w2) := bnext HB1.out hb2; clear hb2 hgt; obtain ⟨w3, hw3⟩ : ∃ w3, w3 = w2.alloc (.cells (ic zT).toArray 61) := ⟨_, rfl⟩; obtain ⟨g, hg⟩ : ∃ g, g = w2.heap.size := ⟨_, rfl⟩; have HT3 : Hid (w3.there g 0 10) := (show _ from by rw [hw3, hg]; exact (itp_new w2 zT).there); have HW3 : Hid (w3 = w2.alloc (.cells (ic zT).toArray 61)) := hw3; have HGG : Hid (g = w2.heap.size) := hg; clear hw3 hg; have tk1 : Hid True := trivial; have tk2 : Hid True := trivial))
    | (clear tk1; refine wpList_okw rfl (exec_alloc35 rfl) ?_; rw [← HW3.out, ← HGG.out])
    | (clear tk2; refine wpList_skipw rfl (exec_store35 (q := x) (.tmp 5) (.tmp 11) rfl rfl rfl HT3.out) ?_; obtain ⟨w4, hw4⟩ : ∃ w4, w4 = w3.setCells g 0 (ic x) := ⟨_, rfl⟩; rw [← hw4]; obtain ⟨i1, i2, i3, i4⟩ := item_putp HBz.out HW3.out HGG.out hw4; have HI4 : Hid (Itp w4 g x) := i1; have HB4 : Hid (Below w.heap.size w w4) := i2; have HB24 : Hid (Below w2.heap.size w2 w4) := i3; have HGL : Hid (w.heap.size ≤ g) := i4; clear hw4 i1 i2 i3 i4 HT3 HW3 HGG))
  have HX4 : Hid (∀ w', Below w4.heap.size w4 w' → w'.rangeAt B0 0 (sc n)) := fun w' hb => (HX.out.below (bnext HB12.out (bnext HB24.out hb))).range0
  have HD : Hid (dirM (L.map IT.m) n = (decide (n = (0, 0)) || (b && x.m.d))) := dirM_got HG.out
  have t3 := fun z : WIn (fun w' => Below w4.heap.size w4 w') => Blk.cell (HI4.out.below z.ok) 5 _ rfl
  obtain ⟨xd, hxd⟩ : ∃ xd, xd = x.m.d := ⟨_, rfl⟩
  rw [← hxd] at t3 HD
  generalize hE : decide (n = (0, 0)) = E at HD
  have HE : Hid (decide (n = (0, 0)) = E) := hE
  clear hE hxd
  have ne : Nonempty (WIn (fun w' => Below w4.heap.size w4 w')) := ⟨⟨w4, Below.refl _ _⟩⟩
  refine wp_region_tree (C := fun w' => ∃ z : WIn (fun w' => Below w4.heap.size w4 w'), w' = z.w) (.still 0 (.one 1 (.still 2 (.still 3 (.still 4 (.still 5 (.still 6 (.still 7 (.still 8 (.still 9 (.still 10 .done))))))))))) (by kernel_rfl) (by kernel_rfl) ⟨⟨w4.drew, below_drewn w4 1⟩, rfl⟩ ?_
  obtain ⟨w5, hw5⟩ : ∃ w5, w5 = w4.drew := ⟨_, rfl⟩
  have HB5 : Hid (Below w4.heap.size w4 w5) := by show Below _ _ _; rw [hw5]; exact below_drewn w4 1
  rw [← hw5]
  clear hw5
  refine tree_still rfl rfl ?_
  refine quiet_ok1 rfl (fun w' hw' => by obtain ⟨z, rfl⟩ := hw'; exact exec_load24n (n := n) (.tmp 3) rfl rfl (HX4.out z.w z.ok)) ?_
  go_simp
  refine tree_one rfl rfl ?_
  go_simp
  refine (HRoot.out _).mono ?_
  rintro r w6 ⟨rfl, hb6⟩
  have HB6 : Hid (Below w4.heap.size w4 w6) := bnext HB5.out hb6
  clear hb6
  refine ⟨⟨⟨w6, HB6.out⟩, rfl⟩, ?_⟩
  go_simp
  refine tree_still rfl rfl ?_
  refine quiet_ok1 rfl (fun w' hw' => exec_eql24 (a := n) (b := (0, 0)) (.tmp 13) (.tmp 14) rfl rfl rfl) ?_
  rw [HE.out]
  go_simp
  cases E
  · cases b
    · iterate 8 (refine tree_still rfl rfl ?_; go_big_quiet_step (fail); refine wpQuiet_nil ?_)
      refine tree_done ?_
      go_wp2
      go_ret
      exact ⟨by rw [HD.out]; rfl, bnext HB4.out HB6.out⟩
    · iterate 8 (refine tree_still rfl rfl ?_; go_big_quiet_step (fail); refine wpQuiet_nil ?_)
      refine tree_done ?_
      go_wp2
      go_ret
      exact ⟨by rw [HD.out]; rfl, bnext HB4.out HB6.out⟩
  · iterate 8 (refine tree_still rfl rfl ?_; go_big_quiet_step (fail); refine wpQuiet_nil ?_)
    refine tree_done ?_
    go_wp2
    go_ret
    exact ⟨by rw [HD.out]; rfl, bnext HB4.out HB6.out⟩
end
end

section
set_option linter.unusedVariables false
set_option linter.unusedSimpArgs false
set_option synthInstance.maxSize 20000
set_option maxHeartbeats 2000000
set_option maxRecDepth 20000
open Go.RowKit Go.Maps

def anyI (_ : IM) : Bool := true
def notG (x : IM) : Bool := !x.g
theorem leads_no {w : World} {L : List IT} {k : Nat} {n t : S} {x : IT} {f : IM → Bool} (h : GotT w L n x false) : leadsM (L.map IT.m) f (k + 1) n t = false := by
  have : findM (L.map IT.m) n = none := by
    have := h.is
    cases hf : findM (L.map IT.m) n with
    | none => rfl
    | some y => rw [hf] at this; cases this
  unfold leadsM
  rw [this]
theorem leads_go {w : World} {L : List IT} {k : Nat} {n t : S} {x : IT} {f : IM → Bool} (h : GotT w L n x true) : leadsM (L.map IT.m) f (k + 1) n t = if f x.m = true then (if x.m.p = t then true else leadsM (L.map IT.m) f k x.m.p t) else false := by
  have : findM (L.map IT.m) n = some x.m := by
    have h1 := h.is
    have h2 := h.m
    cases hf : findM (L.map IT.m) n with
    | none => rw [hf] at h1; cases h1
    | some y => rw [hf] at h2; rw [h2]; rfl
  conv => lhs; unfold leadsM
  rw [this]
theorem two_stamps {w w1 : World} {B0 B1 : Nat} {n t : S} (hw1 : w1 = (w.alloc (.cells (sc n).toArray 35)).alloc (.cells (sc t).toArray 35)) (h0 : B0 = w.heap.size) (h1 : B1 = w.heap.size + 1) :
    Below w.heap.size w w1 ∧ Blk w1 B0 35 (sc n) ∧ Blk w1 B1 35 (sc t) ∧ w.heap.size ≤ B0 ∧ B1 ≠ B0 := by
  subst hw1 h0 h1
  refine ⟨balloc (balloc (Below.refl _ _) _) _, (blk_new w (sc n) 35).alloc _, ?_, by omega, by omega⟩
  have := blk_new (w.alloc (.cells (sc n).toArray 35)) (sc t) 35
  simpa using this
section
variable {w : World} {tb : Nat} {mo : Option Nat} {L : List IT}
theorem any48 (x : IT) (w : World) : Calls Tryz.prog 112 #[iv x] w fun e w' => e = .returned (.bool (anyI x.m)) ∧ Below w.heap.size w w' := by
  go_enter Tryz.func112, Tryz.ntmps112
  go_wp2_with (refine wpList_okw rfl (exec_box35 (q := x) (.tmp 0) rfl rfl) ?_)
  go_ret
  exact ⟨rfl, balloc (Below.refl _ _) _⟩
set_option maxHeartbeats 4000000 in
theorem leads47w (h : PTr w tb mo L) {n t : S} (hn : SOk n) (hf : ∀ (x : IT) (w' : World), Calls Tryz.prog 112 #[iv x] w' fun e w'' => e = .returned (.bool (anyI x.m)) ∧ Below w'.heap.size w' w'') :
    Calls Tryz.prog 111 #[ptr tb, sv n, sv t, .func (.func 112) #[] #[]] w fun e w' => e = .returned (.bool (leadsM (L.map IT.m) anyI 301 n t)) ∧ Below w.heap.size w w' := by
  have HF : Hid (∀ w' q, SOk q → Below w.heap.size w w' → Calls Tryz.prog 40 #[ptr tb, sv q] w' (GetAns w' L q)) := fun w' q hq hb => look42 (h.below hb) hq
  have HW : Hid (∀ (x : IT) (w' : World), Calls Tryz.prog 112 #[iv x] w' fun e w'' => e = .returned (.bool (anyI x.m)) ∧ Below w'.heap.size w' w'') := hf
  have HH : Hid (PTr w tb mo L) := h
  have HN0 : Hid (SOk n) := hn
  clear h hf hn
  obtain ⟨F, hF⟩ : ∃ F : IM → Bool, F = anyI := ⟨_, rfl⟩
  rw [← hF] at HW ⊢
  clear hF
  obtain ⟨R, hR⟩ : ∃ R, R = leadsM (L.map IT.m) F 301 n t := ⟨_, rfl⟩
  rw [← hR]
  have HR0 : Hid (leadsM (L.map IT.m) F (301 - 0) n t = R) := hR.symm
  clear hR
  obtain ⟨w1, hw1⟩ : ∃ w1, w1 = (w.alloc (.cells (sc n).toArray 35)).alloc (.cells (sc t).toArray 35) := ⟨_, rfl⟩
  obtain ⟨B0, hB0⟩ : ∃ B0, B0 = w.heap.size := ⟨_, rfl⟩
  obtain ⟨B1, hB1⟩ : ∃ B1, B1 = w.heap.size + 1 := ⟨_, rfl⟩
  obtain ⟨i1, i2, i3, i4, i5⟩ := two_stamps hw1 hB0 hB1
  have HB1 : Hid (Below w.heap.size w w1) := i1
  have HN1 : Hid (Blk w1 B0 35 (sc n)) := i2
  have HT1 : Hid (Blk w1 B1 35 (sc t)) := i3
  have HBB : Hid (w.heap.size ≤ B0 ∧ B1 ≠ B0) := ⟨i4, i5⟩
  clear i1 i2 i3 i4 i5
  go_enter Tryz.func111, Tryz.ntmps111
  go_upto_region 1 with (first | (refine wpList_okw rfl (exec_box24 (n := n) (.tmp 1) rfl rfl) ?_) | (refine wpList_okw rfl (exec_box24 (n := t) (.tmp 2) rfl rfl) ?_))
  rw [show (Value.pointer (some { block := w.heap.size + 1, off := 0 })) = ptr B1 from by rw [hB1]]
  rw [← hw1]
  rw [← hB0]
  clear hw1 hB0 hB1
  go_wp2
  go_loopw [11] (fun i wr => ∃ (k : Nat) (q : S), i = .int .i64 (k : Int) ∧ k ≤ 301 ∧ Hid (SOk q) ∧ Hid (leadsM (L.map IT.m) F (301 - k) q t = R) ∧ Hid (Blk wr B0 35 (sc q)) ∧ Hid (Blk wr B1 35 (sc t)) ∧ Hid (Below w.heap.size w wr)) (fun i _ => 301 - (intOf i).toNat)
  case atStart => exact ⟨0, n, rfl, by omega, HN0, HR0, HN1, HT1, HB1⟩
  case round =>
    obtain ⟨k, q, rfl, hk, HQ, HR, HN, HT, HB⟩ := hrel
    clear HR0 HN1 HT1 HN0
    rename World => wr
    by_cases hlt : k < 301
    · have hkI : (k : Int) < 301 := by omega
      have HRk : Hid (leadsM (L.map IT.m) F ((300 - k) + 1) q t = R) := by
        show _ = _
        rw [show (300 - k) + 1 = 301 - k by omega]
        exact HR.out
      clear HR
      have HNR : Hid (wr.rangeAt B0 0 (sc q)) := HN.out.range0
      go_upto_region 4 with (first
        | (refine wpList_okw rfl (exec_load24n (n := q) (.tmp 5) rfl rfl HNR.out) ?_)
        | (go_at_call 40; go_must (refine (HF.out _ _ HQ.out HB.out).mono ?_; rintro r w2 ⟨x, b, rfl, hgt, hb2⟩; have HG : Hid (GotT w2 L q x b) := hgt; have HB12 : Hid (Below wr.heap.size wr w2) := hb2; have HBz : Hid (Below w.heap.size w w2) := bnext HB.out hb2; clear hb2 hgt; obtain ⟨w3, hw3⟩ : ∃ w3, w3 = w2.alloc (.cells (ic zT).toArray 61) := ⟨_, rfl⟩; obtain ⟨g, hg⟩ : ∃ g, g = w2.heap.size := ⟨_, rfl⟩; have HT3 : Hid (w3.there g 0 10) := (show _ from by rw [hw3, hg]; exact (itp_new w2 zT).there); have HW3 : Hid (w3 = w2.alloc (.cells (ic zT).toArray 61)) := hw3; have HGG : Hid (g = w2.heap.size) := hg; clear hw3 hg; have tk1 : Hid True := trivial; have tk2 : Hid True := trivial)) | (clear tk1; refine wpList_okw rfl (exec_alloc35 rfl) ?_; rw [← HW3.out, ← HGG.out]) | (clear tk2; refine wpList_skipw rfl (exec_store35 (q := x) (.tmp 9) (.tmp 17) rfl rfl rfl HT3.out) ?_; obtain ⟨w4, hw4⟩ : ∃ w4, w4 = w3.setCells g 0 (ic x) := ⟨_, rfl⟩; rw [← hw4]; obtain ⟨i1, i2, i3, i4⟩ := item_putp HBz.out HW3.out HGG.out hw4; have HI4 : Hid (Itp w4 g x) := i1; have HB4 : Hid (Below w.heap.size w w4) := i2; have HB24 : Hid (Below w2.heap.size w2 w4) := i3; have HGL : Hid (w.heap.size ≤ g) := i4; clear hw4 i1 i2 i3 i4 HT3 HW3 HGG))
      clear HNR
      cases b
      · have HRR : Hid (R = false) := by show _ = _; rw [← HRk.out]; exact leads_no HG.out
        clear HRk
        go_wp2
        go_ret
        exact ⟨by rw [HRR.out]; rfl, HB4.out⟩
      · have HL4 : Hid (w4.rangeAt g 0 (ic x)) := HI4.out.range
        have HRg : Hid (R = if F x.m = true then (if x.m.p = t then true else leadsM (L.map IT.m) F (300 - k) x.m.p t) else false) := by show _ = _; rw [← HRk.out]; exact leads_go HG.out
        clear HRk
        generalize hfx : F x.m = fx at HRg
        have HFX : Hid (F x.m = fx) := hfx
        clear hfx
        cases fx
        · go_upto_region 5 with (first
            | (refine wpList_okw rfl (exec_load35 (q := x) (.tmp 9) rfl rfl HL4.out) ?_)
            | (go_at_call 112; go_must (refine (HW.out x _).mono ?_; rintro r w5 ⟨rfl, hb5⟩; have HB45 : Hid (Below w4.heap.size w4 w5) := hb5; clear hb5; rw [HFX.out])))
          have HRR : Hid (R = false) := by show _ = _; rw [HRg.out]; simp
          clear HRg
          go_wp2
          go_ret
          exact ⟨by rw [HRR.out]; rfl, bnext HB4.out HB45.out⟩
        · go_upto_region 6 with (first
            | (refine wpList_okw rfl (exec_load35 (q := x) (.tmp 9) rfl rfl HL4.out) ?_)
            | (go_at_call 112; go_must (refine (HW.out x _).mono ?_; rintro r w5 ⟨rfl, hb5⟩; have HB45 : Hid (Below w4.heap.size w4 w5) := hb5; clear hb5; rw [HFX.out])))
          have HRh : Hid (R = if x.m.p = t then true else leadsM (L.map IT.m) F (300 - k) x.m.p t) := by show _ = _; rw [HRg.out]; simp
          clear HRg
          have HI5 : Hid (Itp w5 g x) := HI4.out.below HB45.out
          have HP5 : Hid (w5.rangeAt g 2 (sc x.m.p)) := HI5.out.par
          have HN5 : Hid (Blk w5 B0 35 (sc q)) := HN.out.below (bnext HB12.out (bnext HB24.out HB45.out))
          have HT5 : Hid (Blk w5 B1 35 (sc t)) := HT.out.below (bnext HB12.out (bnext HB24.out HB45.out))
          have HTH : Hid (w5.there B0 0 2) := Blk.there HN5.out 0 2 (by simp [sc])
          obtain ⟨w6, hw6⟩ : ∃ w6, w6 = w5.setCells B0 0 (sc x.m.p) := ⟨_, rfl⟩
          have HW6 : Hid (w6 = w5.setCells B0 0 (sc x.m.p)) := hw6
          have HN6 : Hid (Blk w6 B0 35 (sc x.m.p)) := by show Blk _ _ _ _; rw [hw6]; exact Blk.put2 HN5.out
          have HT6 : Hid (Blk w6 B1 35 (sc t)) := by show Blk _ _ _ _; rw [hw6]; exact HT5.out.past (grown_setCells _ _ _ _) HBB.out.2
          have HB6 : Hid (Below w.heap.size w w6) := by show Below _ _ _; rw [hw6]; exact below_put (bnext HB4.out HB45.out) HBB.out.1
          have HSP : Hid (SOk x.m.p) := (HG.out.fine HH.out).2.2
          have HNR6 : Hid (w6.rangeAt B0 0 (sc x.m.p)) := HN6.out.range0
          have HTR6 : Hid (w6.rangeAt B1 0 (sc t)) := HT6.out.range0
          clear hw6
          generalize hE : decide (x.m.p = t) = E
          have HE : Hid (decide (x.m.p = t) = E) := hE
          clear hE
          have tk3 : Hid True := trivial
          have tk4 : Hid True := trivial
          cases E
          · have HRR : Hid (leadsM (L.map IT.m) F (301 - (k + 1)) x.m.p t = R) := by
              show _ = _
              rw [HRh.out, if_neg (of_decide_eq_false HE.out), show 301 - (k + 1) = 300 - k by omega]
            clear HRh
            go_wp2_with (first
              | (refine wpList_okw rfl (exec_load24n (n := x.m.p) (.tmp 27) rfl rfl HP5.out) ?_)
              | (clear tk3; refine wpList_skipw rfl (exec_store24n (n := x.m.p) (.tmp 5) (.tmp 28) rfl rfl rfl HTH.out) ?_; rw [← HW6.out])
              | (refine wpList_okw rfl (exec_load24n (n := x.m.p) (.tmp 5) rfl rfl HNR6.out) ?_)
              | (refine wpList_okw rfl (exec_load24n (n := t) (.tmp 6) rfl rfl HTR6.out) ?_)
              | (clear tk4; refine wpList_okw rfl (exec_eql24 (a := x.m.p) (b := t) (.tmp 29) (.tmp 30) rfl rfl rfl) ?_; rw [HE.out]))
            go_roundw
            case rel => exact ⟨k + 1, x.m.p, by go_num, by omega, HSP, HRR, HN6, HT6, HB6⟩
            case measure => simp [intOf]; omega
          · have HRR : Hid (R = true) := by show _ = _; rw [HRh.out, if_pos (of_decide_eq_true HE.out)]
            clear HRh
            go_wp2_with (first
              | (refine wpList_okw rfl (exec_load24n (n := x.m.p) (.tmp 27) rfl rfl HP5.out) ?_)
              | (clear tk3; refine wpList_skipw rfl (exec_store24n (n := x.m.p) (.tmp 5) (.tmp 28) rfl rfl rfl HTH.out) ?_; rw [← HW6.out])
              | (refine wpList_okw rfl (exec_load24n (n := x.m.p) (.tmp 5) rfl rfl HNR6.out) ?_)
              | (refine wpList_okw rfl (exec_load24n (n := t) (.tmp 6) rfl rfl HTR6.out) ?_)
              | (clear tk4; refine wpList_okw rfl (exec_eql24 (a := x.m.p) (b := t) (.tmp 29) (.tmp 30) rfl rfl rfl) ?_; rw [HE.out]))
            go_ret
            exact ⟨by rw [HRR.out]; rfl, HB6.out⟩
    · have hkI : ¬ (k : Int) < 301 := by omega
      have HRR : Hid (R = false) := by
        show _ = _
        rw [← HR.out, show 301 - k = 0 by omega]
        rfl
      clear HR
      go_wp2
      go_ret
      exact ⟨by rw [HRR.out]; rfl, HB.out⟩
end
end
end Go.Proofs.YthnjbjlhfohpfaaGreat
