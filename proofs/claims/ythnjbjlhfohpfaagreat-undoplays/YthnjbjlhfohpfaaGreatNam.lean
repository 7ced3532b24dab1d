/-
  The reference's dir, Within and Hangs.
  Names: which strings are names; strings.ContainsFunc with the program's own test.
-/
import Derived.Test.YthnjbjlhfohpfaaGreatTrG
import Derived.Test.YthnjbjlhfohpfaaGreatLsG
import Derived.Lib.OthersKept
import Derived.Lib.TrimU
import Derived.Laws.RangeString
import Derived.Shelf.Abstract
namespace Go.Proofs.YthnjbjlhfohpfaaGreat
section
set_option linter.unusedVariables false
set_option linter.unusedSimpArgs false
set_option synthInstance.maxSize 20000
set_option maxHeartbeats 2000000
set_option maxRecDepth 20000
open Go.RowKit Go.Maps

theorem exec_alloc41 {o : Oper} {r : Operand → Value} {w : World} (ho : o.op = .alloc 76) : (execOp r o).run Tryz.prog w = .ok (.value (ptr w.heap.size)) (w.alloc (.cells (ic zT).toArray 76)) := by
  unfold execOp
  simp only [ho]
  go_simp
  rfl
theorem itb_new (w : World) (x : IT) : Itb (w.alloc (.cells (ic x).toArray 76)) w.heap.size x := blk_new w (ic x) 76
/-- A new item's block, into which an item is put. -/
theorem item_put {w0 w w3 w4 : World} {g : Nat} {x : IT} (hb : Below w0.heap.size w0 w) (h3 : w3 = w.alloc (.cells (ic zT).toArray 76)) (hg : g = w.heap.size) (h4 : w4 = w3.setCells g 0 (ic x)) : Itb w4 g x ∧ Below w0.heap.size w0 w4 ∧ Below w.heap.size w w4 ∧ w0.heap.size ≤ g := by
  subst h3 hg h4
  exact ⟨(itb_new w zT).put, below_put (balloc hb _) hb.size, below_put (balloc (Below.refl _ _) _) (Nat.le_refl _), hb.size⟩
theorem dirM_got {w : World} {L : List IT} {n : S} {x : IT} {b : Bool} (h : GotT w L n x b) : dirM (L.map IT.m) n = (decide (n = (0, 0)) || (b && x.m.d)) := by
  unfold dirM
  rw [h.is, h.m]
  cases findM (L.map IT.m) n <;> rfl
theorem dir37 {w : World} {tb : Nat} {v : Value} {L : List IT} (h : RTr w tb v L) (n : S) :
    Calls Tryz.prog 52 #[ptr tb, sv n] w fun e w' => e = .returned (.bool (dirM (L.map IT.m) n)) ∧ Below w.heap.size w w' := by
  have HF : Hid (∀ w', Below w.heap.size w w' → Calls Tryz.prog 51 #[ptr tb, sv n] w' (GetAns w' L n)) := fun w' hb => get20 (h.below hb) n
  have HD : Hid (∀ w' x b, GotT w' L n x b → dirM (L.map IT.m) n = (decide (n = (0, 0)) || (b && x.m.d))) := fun w' x b h => dirM_got h
  clear h
  have hcs := two_cases n (0, 0)
  obtain ⟨n1, n2⟩ := n
  generalize dirM (L.map IT.m) (n1, n2) = R at HD ⊢
  unfold sv at *
  dsimp only at *
  obtain ⟨w1, hw1⟩ : ∃ w1, w1 = w.alloc (.cells #[.int .i64 n1, .int .i64 n2] 35) := ⟨_, rfl⟩
  obtain ⟨B0, hB0⟩ : ∃ B0, B0 = w.heap.size := ⟨_, rfl⟩
  have HB1 : Hid (Below w.heap.size w w1) := by show Below _ _ _; rw [hw1]; exact balloc (Below.refl _ _) _
  have HX : Hid (Blk w1 B0 35 [.int .i64 n1, .int .i64 n2]) := by show Blk _ _ _ _; rw [hw1, hB0]; exact blk_new w [.int .i64 n1, .int .i64 n2] 35
  have d0 := HX.out.cell 0 _ rfl
  have d1 := HX.out.cell 1 _ rfl
  go_enter Tryz.func52, Tryz.ntmps52
  go_upto_region 1 with fail
  rw [← hw1, ← hB0]
  clear hw1 hB0
  go_upto_region 2 with (first
    | (go_at_call 51; go_must (refine (HF.out _ HB1.out).mono ?_; rintro r w2 ⟨x, b, rfl, hgt, hb2⟩; have HG : Hid (GotT w2 L (n1, n2) x b) := hgt; have HB12 : Hid (Below w1.heap.size w1 w2) := hb2; have HBz : Hid (Below w.heap.size w w2) := bnext HB1.out hb2; clear hb2 hgt; obtain ⟨w3, hw3⟩ : ∃ w3, w3 = w2.alloc (.cells (ic zT).toArray 76) := ⟨_, rfl⟩; obtain ⟨g, hg⟩ : ∃ g, g = w2.heap.size := ⟨_, rfl⟩; have HT3 : Hid (w3.there g 0 10) := (show _ from by rw [hw3, hg]; exact (itb_new w2 zT).there); have HW3 : Hid (w3 = w2.alloc (.cells (ic zT).toArray 76)) := hw3; have HGG : Hid (g = w2.heap.size) := hg; clear hw3 hg; have tk1 : Hid True := trivial; have tk2 : Hid True := trivial))
    | (clear tk1; refine wpList_okw rfl (exec_alloc41 rfl) ?_; rw [← HW3.out, ← HGG.out])
    | (clear tk2; refine wpList_skipw rfl (exec_store41 (q := x) (.tmp 5) (.tmp 11) rfl rfl rfl HT3.out) ?_; obtain ⟨w4, hw4⟩ : ∃ w4, w4 = w3.setCells g 0 (ic x) := ⟨_, rfl⟩; rw [← hw4]; obtain ⟨i1, i2, i3, i4⟩ := item_put HBz.out HW3.out HGG.out hw4; have HI4 : Hid (Itb w4 g x) := i1; have HB4 : Hid (Below w.heap.size w w4) := i2; have HB24 : Hid (Below w2.heap.size w2 w4) := i3; have HGL : Hid (w.heap.size ≤ g) := i4; clear hw4 i1 i2 i3 i4 HT3 HW3 HGG))
  have HX4 : Hid (Blk w4 B0 35 [.int .i64 n1, .int .i64 n2]) := HX.out.below (bnext HB12.out HB24.out)
  clear d0 d1
  have d0 := HX4.out.cell 0 _ rfl
  have d1 := HX4.out.cell 1 _ rfl
  have e5 := Blk.cell HI4.out 5 _ rfl
  have HR := HD.out w2 x b HG.out
  rcases hcs with he | he | ⟨he, he2⟩
  · simp only [Prod.mk.injEq] at he
    obtain ⟨rfl, rfl⟩ := he
    have HRR : Hid (R = true) := by show _ = _; rw [HR]; rfl
    clear HR
    go_wp2
    go_ret
    exact ⟨by rw [HRR.out]; rfl, HB4.out⟩
  all_goals
    have hne : ¬ (n1, n2) = (0, 0) := fun e => by
      simp only [Prod.mk.injEq] at e
      simp_all
    rw [decide_eq_false hne, Bool.false_or] at HR
    have HRR : Hid (R = (b && x.m.d)) := HR
    clear HR hne
    cases b <;> go_wp2 <;> go_ret <;> exact ⟨by rw [HRR.out]; rfl, HB4.out⟩
theorem exec_store24 {o : Oper} {r : Operand → Value} {w : World} {b off : Nat} {s1 s2 : Int} (x y : Operand) (ho : o.op = .store 35 x y) (hx : r x = .pointer (some ⟨b, off, none⟩)) (hy : r y = .agg #[.int .i64 s1, .int .i64 s2]) (ht : w.there b off 2) : (execOp r o).run Tryz.prog w = .ok .skip (w.setCells b off [.int .i64 s1, .int .i64 s2]) := by
  have h := run_storeAt_mid (P := Tryz.prog) w b off 35 #[.int .i64 s1, .int .i64 s2] (by simpa using ht) (by kernel_rfl) (all_oneCell_toArray (cs := [.int .i64 s1, .int .i64 s2]) (fun u hu => by simp at hu; rcases hu with rfl | rfl <;> rfl))
  unfold execOp
  simp only [ho, hx, hy, Sem.run_bind, h, Result.andThen_ok, Sem.run_pure]
theorem Blk.put2 {w : World} {b : Nat} {e : TypeId} {x1 x2 y1 y2 : Value} (h : Blk w b e [x1, x2]) : Blk (w.setCells b 0 [y1, y2]) b e [y1, y2] := by
  have := Blk.setCells h 0 [y1, y2] (by simp)
  rwa [splice_all _ _ (by simp)] at this
theorem withinM_eq (L : List IM) (k : Nat) (n : S) : withinM L (k + 1) n n = true := by simp [withinM]
theorem withinM_no {w : World} {L : List IT} {k : Nat} {n m : S} {x : IT} (hne : ¬ m = n) (h : GotT w L m x false) : withinM (L.map IT.m) (k + 1) n m = false := by
  have h1 := h.is
  cases hf : findM (L.map IT.m) m with
  | none => simp [withinM, hne, hf]
  | some y => rw [hf] at h1; cases h1
theorem withinM_go {w : World} {L : List IT} {k : Nat} {n m : S} {x : IT} (hne : ¬ m = n) (h : GotT w L m x true) : withinM (L.map IT.m) (k + 1) n m = withinM (L.map IT.m) k n x.m.p := by
  have h1 := h.is
  have h2 := h.m
  cases hf : findM (L.map IT.m) m with
  | none => rw [hf] at h1; cases h1
  | some y => rw [hf] at h2; simp [withinM, hne, hf, h2]
theorem hangsM_eq (L : List IM) (k : Nat) : hangsM L (k + 1) (0, 0) = true := by simp [hangsM]
theorem hangsM_no {w : World} {L : List IT} {k : Nat} {n : S} {x : IT} (hne : ¬ n = (0, 0)) (h : GotT w L n x false) : hangsM (L.map IT.m) (k + 1) n = false := by
  have h1 := h.is
  cases hf : findM (L.map IT.m) n with
  | none => simp [hangsM, hne, hf]
  | some y => rw [hf] at h1; cases h1
theorem hangsM_go {w : World} {L : List IT} {k : Nat} {n : S} {x : IT} (hne : ¬ n = (0, 0)) (h : GotT w L n x true) : hangsM (L.map IT.m) (k + 1) n = if x.m.g = true then false else hangsM (L.map IT.m) k x.m.p := by
  have h1 := h.is
  have h2 := h.m
  cases hf : findM (L.map IT.m) n with
  | none => rw [hf] at h1; cases h1
  | some y => rw [hf] at h2; simp [hangsM, hne, hf, h2]
set_option maxHeartbeats 4000000 in
theorem within22 {w : World} {tb : Nat} {v : Value} {L : List IT} (h : RTr w tb v L) (n m : S) :
    Calls Tryz.prog 53 #[ptr tb, sv n, sv m] w fun e w' => e = .returned (.bool (withinM (L.map IT.m) 301 n m)) ∧ Below w.heap.size w w' := by
  have HF : Hid (∀ w' m1 m2, Below w.heap.size w w' → Calls Tryz.prog 51 #[ptr tb, .agg #[.int .i64 m1, .int .i64 m2]] w' (GetAns w' L (m1, m2))) := fun w' m1 m2 hb => get20 (h.below hb) (m1, m2)
  clear h
  obtain ⟨n1, n2⟩ := n
  obtain ⟨m1, m2⟩ := m
  unfold sv at *
  dsimp only at *
  obtain ⟨R, hR⟩ : ∃ R, R = withinM (L.map IT.m) 301 (n1, n2) (m1, m2) := ⟨_, rfl⟩
  rw [← hR]
  have HR0 : Hid (withinM (L.map IT.m) (301 - 0) (n1, n2) (m1, m2) = R) := hR.symm
  clear hR
  obtain ⟨w1, hw1⟩ : ∃ w1, w1 = (w.alloc (.cells #[.int .i64 n1, .int .i64 n2] 35)).alloc (.cells #[.int .i64 m1, .int .i64 m2] 35) := ⟨_, rfl⟩
  obtain ⟨B0, hB0⟩ : ∃ B0, B0 = w.heap.size := ⟨_, rfl⟩
  obtain ⟨B1, hB1⟩ : ∃ B1, B1 = w.heap.size + 1 := ⟨_, rfl⟩
  have HB1 : Hid (Below w.heap.size w w1) := by show Below _ _ _; rw [hw1]; exact balloc (balloc (Below.refl _ _) _) _
  have HN1 : Hid (Blk w1 B0 35 [.int .i64 n1, .int .i64 n2]) := by show Blk _ _ _ _; rw [hw1, hB0]; exact (blk_new w [.int .i64 n1, .int .i64 n2] 35).alloc _
  have HM1 : Hid (Blk w1 B1 35 [.int .i64 m1, .int .i64 m2]) := by
    show Blk _ _ _ _
    rw [hw1, hB1]
    have := blk_new (w.alloc (.cells #[.int .i64 n1, .int .i64 n2] 35)) [.int .i64 m1, .int .i64 m2] 35
    simpa using this
  have HBB : Hid (w.heap.size ≤ B1 ∧ B0 ≠ B1) := by show _ ∧ _; omega
  go_enter Tryz.func53, Tryz.ntmps53
  go_upto_region 1 with fail
  rw [← hw1, ← hB1]
  rw [← hB0]
  clear hw1 hB0 hB1
  go_wp2
  go_loopw [7] (fun i wr => ∃ (k : Nat) (y1 y2 : Int), i = .int .i64 (k : Int) ∧ k ≤ 301 ∧ Hid (withinM (L.map IT.m) (301 - k) (n1, n2) (y1, y2) = R) ∧ Hid (Blk wr B0 35 [.int .i64 n1, .int .i64 n2]) ∧ Hid (Blk wr B1 35 [.int .i64 y1, .int .i64 y2]) ∧ Hid (Below w.heap.size w wr)) (fun i _ => 301 - (intOf i).toNat)
  case atStart => exact ⟨0, m1, m2, rfl, by omega, HR0, HN1, HM1, HB1⟩
  case round =>
    obtain ⟨k, y1, y2, rfl, hk, HR, HN, HM, HB⟩ := hrel
    clear HR0 HN1 HM1
    rename World => wr
    by_cases hlt : k ≤ 300
    · have hkI : (k : Int) ≤ 300 := by omega
      have HRk : Hid (withinM (L.map IT.m) ((300 - k) + 1) (n1, n2) (y1, y2) = R) := by
        show _ = _
        rw [show (300 - k) + 1 = 301 - k by omega]
        exact HR.out
      clear HR
      have c0 := HN.out.cell 0 _ rfl
      have c1 := HN.out.cell 1 _ rfl
      have e0 := HM.out.cell 0 _ rfl
      have e1 := HM.out.cell 1 _ rfl
      rcases two_cases (y1, y2) (n1, n2) with he | he | ⟨he, he2⟩
      · simp only [Prod.mk.injEq] at he
        obtain ⟨rfl, rfl⟩ := he
        have HRR : Hid (R = true) := by show _ = _; rw [← HRk.out]; exact withinM_eq _ _ _
        clear HRk
        go_wp2
        go_ret
        exact ⟨by rw [HRR.out]; rfl, HB.out⟩
      all_goals
        have hne : ¬ (y1, y2) = (n1, n2) := fun e => by
          simp only [Prod.mk.injEq] at e
          simp_all
        have HNE : Hid (¬ (y1, y2) = (n1, n2)) := hne
        clear hne
        go_upto_region 7 with (first
          | (go_at_call 51; go_must (refine (HF.out _ _ _ HB.out).mono ?_; rintro r w2 ⟨x, b, rfl, hgt, hb2⟩; have HG : Hid (GotT w2 L (y1, y2) x b) := hgt; have HB12 : Hid (Below wr.heap.size wr w2) := hb2; have HBz : Hid (Below w.heap.size w w2) := bnext HB.out hb2; clear hb2 hgt; obtain ⟨w3, hw3⟩ : ∃ w3, w3 = w2.alloc (.cells (ic zT).toArray 76) := ⟨_, rfl⟩; obtain ⟨g, hg⟩ : ∃ g, g = w2.heap.size := ⟨_, rfl⟩; have HT3 : Hid (w3.there g 0 10) := (show _ from by rw [hw3, hg]; exact (itb_new w2 zT).there); have HW3 : Hid (w3 = w2.alloc (.cells (ic zT).toArray 76)) := hw3; have HGG : Hid (g = w2.heap.size) := hg; clear hw3 hg; have tk1 : Hid True := trivial; have tk2 : Hid True := trivial))
          | (clear tk1; refine wpList_okw rfl (exec_alloc41 rfl) ?_; rw [← HW3.out, ← HGG.out])
          | (clear tk2; refine wpList_skipw rfl (exec_store41 (q := x) (.tmp 8) (.tmp 21) rfl rfl rfl HT3.out) ?_; obtain ⟨w4, hw4⟩ : ∃ w4, w4 = w3.setCells g 0 (ic x) := ⟨_, rfl⟩; rw [← hw4]; obtain ⟨i1, i2, i3, i4⟩ := item_put HBz.out HW3.out HGG.out hw4; have HI4 : Hid (Itb w4 g x) := i1; have HB4 : Hid (Below w.heap.size w w4) := i2; have HB24 : Hid (Below w2.heap.size w2 w4) := i3; have HGL : Hid (w.heap.size ≤ g) := i4; clear hw4 i1 i2 i3 i4 HT3 HW3 HGG))
        cases b
        · have HRR : Hid (R = false) := by show _ = _; rw [← HRk.out]; exact withinM_no HNE.out HG.out
          clear HRk
          go_wp2
          go_ret
          exact ⟨by rw [HRR.out]; rfl, HB4.out⟩
        · have HRR : Hid (withinM (L.map IT.m) (301 - (k + 1)) (n1, n2) x.m.p = R) := by
            show _ = _
            rw [← HRk.out, withinM_go HNE.out HG.out, show 301 - (k + 1) = 300 - k by omega]
          have hp2 := Blk.cell HI4.out 2 _ rfl
          have hp3 := Blk.cell HI4.out 3 _ rfl
          have HM4 : Hid (Blk w4 B1 35 [.int .i64 y1, .int .i64 y2]) := HM.out.below (bnext HB12.out HB24.out)
          have HN4 : Hid (Blk w4 B0 35 [.int .i64 n1, .int .i64 n2]) := HN.out.below (bnext HB12.out HB24.out)
          have HTH : Hid (w4.there B1 0 2) := Blk.there HM4.out 0 2 (by simp)
          obtain ⟨w5, hw5⟩ : ∃ w5, w5 = w4.setCells B1 0 [.int .i64 x.m.p.1, .int .i64 x.m.p.2] := ⟨_, rfl⟩
          have HW5 : Hid (w5 = w4.setCells B1 0 [.int .i64 x.m.p.1, .int .i64 x.m.p.2]) := hw5
          have HM5 : Hid (Blk w5 B1 35 [.int .i64 x.m.p.1, .int .i64 x.m.p.2]) := by show Blk _ _ _ _; rw [hw5]; exact HM4.out.put2
          have HN5 : Hid (Blk w5 B0 35 [.int .i64 n1, .int .i64 n2]) := by show Blk _ _ _ _; rw [hw5]; exact HN4.out.past (grown_setCells _ _ _ _) HBB.out.2
          have HB5 : Hid (Below w.heap.size w w5) := by show Below _ _ _; rw [hw5]; exact below_put HB4.out HBB.out.1
          have tk3 : Hid True := trivial
          clear hw5 HRk
          go_wp2_with (clear tk3; refine wpList_skipw rfl (exec_store24 (.tmp 5) (.tmp 26) rfl rfl rfl HTH.out) ?_; rw [← HW5.out])
          go_roundw
          case rel => exact ⟨k + 1, x.m.p.1, x.m.p.2, by go_num, by omega, HRR, HN5, HM5, HB5⟩
          case measure => simp [intOf]; omega
    · have hkI : ¬ (k : Int) ≤ 300 := by omega
      have HRR : Hid (R = false) := by
        show _ = _
        rw [← HR.out, show 301 - k = 0 by omega]
        rfl
      clear HR
      go_wp2
      go_ret
      exact ⟨by rw [HRR.out]; rfl, HB.out⟩
end

section
set_option linter.unusedVariables false
set_option linter.unusedSimpArgs false
set_option synthInstance.maxSize 20000
set_option maxHeartbeats 2000000
set_option maxRecDepth 20000
open Go.RowKit Go.Maps

def bar (n : Nat) : Bool := n < 32 || n == 127 || n == 47 || n == 126
theorem bar_high {n : Nat} (h : 128 ≤ n) : bar n = false := by
  unfold bar
  simp
  omega
/-- Has it a byte that no name has? -/
def hasBar (s : ByteArray) : Bool := s.data.toList.any (fun b => bar b.toNat)
theorem get_list (s : ByteArray) (i : Nat) (h : i < s.size) : s.data.toList[i]? = some (s.get! i) := by
  have e : s.get! i = s[i]'h := by
    unfold ByteArray.get!
    exact getElem!_pos s.data i h
  rw [e]
  have : i < s.data.toList.length := by simpa using h
  rw [List.getElem?_eq_getElem this]
  rfl
theorem hasBar_iff (s : ByteArray) : hasBar s = true ↔ ∃ i, i < s.size ∧ bar (s.get! i).toNat = true := by
  unfold hasBar
  rw [List.any_eq_true]
  constructor
  · rintro ⟨b, hb, h⟩
    obtain ⟨i, hi⟩ := List.mem_iff_getElem?.1 hb
    have hlt : i < s.size := by
      have := (List.getElem?_eq_some_iff.1 hi).1
      simpa using this
    rw [get_list s i hlt] at hi
    injection hi with hi
    exact ⟨i, hlt, by rw [hi]; exact h⟩
  · rintro ⟨i, hi, h⟩
    exact ⟨_, List.mem_of_getElem? (get_list s i hi), h⟩
theorem decode_bar (s : ByteArray) (pos : Nat) (h : bar (Utf8.decode s pos).1 = true) : bar (s.get! pos).toNat = true := by
  rw [Lib.decode_at] at h
  generalize (s.get! pos).toNat = b0 at *
  by_cases hb : b0 < 128
  · rw [show (Lib.decodeN (s.size - pos) b0 (s.get! (pos + 1)).toNat (s.get! (pos + 2)).toNat (s.get! (pos + 3)).toNat).1 = b0 by unfold Lib.decodeN; rw [if_pos hb]] at h
    exact h
  · exfalso
    have : 128 ≤ (Lib.decodeN (s.size - pos) b0 (s.get! (pos + 1)).toNat (s.get! (pos + 2)).toNat (s.get! (pos + 3)).toNat).1 := by
      unfold Lib.decodeN
      rw [if_neg hb]
      repeat' split
      all_goals (dsimp only; omega)
    rw [bar_high this] at h
    cases h
theorem decode_clear (s : ByteArray) (pos : Nat) (h : bar (Utf8.decode s pos).1 = false) : ∀ i, pos ≤ i → i < pos + (Utf8.decode s pos).2 → bar (s.get! i).toNat = false := by
  intro i h1 h2
  rw [Lib.decode_at] at h h2
  generalize hb0 : (s.get! pos).toNat = b0 at *
  generalize hb1 : (s.get! (pos + 1)).toNat = b1 at *
  generalize hb2 : (s.get! (pos + 2)).toNat = b2 at *
  generalize hb3 : (s.get! (pos + 3)).toNat = b3 at *
  have key : i = pos ∧ (b0 < 128 → bar b0 = false) ∨ i = pos + 1 ∧ 128 ≤ b1 ∨ i = pos + 2 ∧ 128 ≤ b2 ∨ i = pos + 3 ∧ 128 ≤ b3 := by
    by_cases hb : b0 < 128
    · unfold Lib.decodeN at h h2
      rw [if_pos hb] at h h2
      exact .inl ⟨by simp at h2; omega, fun _ => h⟩
    · unfold Lib.decodeN at h2
      rw [if_neg hb] at h2
      repeat' split at h2
      all_goals (dsimp only at h2; omega)
  rcases key with ⟨rfl, k⟩ | ⟨rfl, k⟩ | ⟨rfl, k⟩ | ⟨rfl, k⟩
  · rw [hb0]
    by_cases hb : b0 < 128
    · exact k hb
    · exact bar_high (by omega)
  · rw [hb1]; exact bar_high k
  · rw [hb2]; exact bar_high k
  · rw [hb3]; exact bar_high k
theorem barred42 (n : Nat) (w : World) : Calls Tryz.prog 92 #[.int .i32 (n : Int)] w fun e w' => e = .returned (.bool (bar n)) ∧ w' = w := by
  have HB : Hid (bar n = (decide (n < 32) || n == 127 || n == 47 || n == 126)) := (rfl : bar n = _)
  go_enter Tryz.func92, Tryz.ntmps92
  go_wp2
  all_goals
    go_ret
    refine ⟨ret_bool ?_, rfl⟩
    rw [HB.out]
    simp
    try omega
theorem indexFunc89 (s : ByteArray) (w : World) : Calls Tryz.prog 110 #[.string s, .func (.func 92) #[] #[], .bool true] w fun e w' => ∃ i : Int, e = .returned (.int .i64 i) ∧ (0 ≤ i ↔ hasBar s = true) ∧ Below w.heap.size w w' := by
  go_enter Tryz.func110, Tryz.ntmps110
  go_wp2
  go_loopg [] s.size (fun gf wx => ∃ pos : Nat, wx.heap[w.heap.size]? = some (.stringIter s pos) ∧ Below w.heap.size w wx ∧ Hid (∀ i, i < pos → i < s.size → bar (s.get! i).toNat = false) ∧ s.size ≤ pos + gf)
  case atStart => exact ⟨0, World.iter_heap w s 0, (Below.refl _ w).alloc (Nat.le_refl _) _, (fun i h => by omega), by omega⟩
  case round =>
    obtain ⟨pos, hit, hbw, HC, hfu⟩ := hrel
    by_cases hps : pos < s.size
    · obtain ⟨g', rfl⟩ : ∃ g', gk = g' + 1 := ⟨gk - 1, by omega⟩
      have hnx : ∀ ty, (Instr.next (.pointer (some ⟨w.heap.size, 0, none⟩)) true ty).run Tryz.prog wr = _ := fun ty => Lib.run_next_any_at wr w.heap.size s pos ty hit hps
      have hwd := Lib.width_pos s pos
      have hdb := decode_bar s pos
      have hdc := decode_clear s pos
      generalize (Utf8.decode s pos).1 = R at *
      generalize (Utf8.decode s pos).2 = K at *
      have hit2 := Lib.iterAt_heap wr w.heap.size s pos (pos + K) hit
      have hbw2 := Lib.below_iterAt hbw (k := w.heap.size) (Nat.le_refl _) s (pos + K)
      generalize wr.iterAt w.heap.size s (pos + K) = W at *
      have HB : Hid (Calls Tryz.prog 92 #[.int .i32 (R : Int)] W fun e w' => e = .returned (.bool (bar R)) ∧ w' = W) := barred42 R W
      cases hb : bar R
      · rw [hb] at HB
        have HC2 : Hid (∀ i, i < pos + K → i < s.size → bar (s.get! i).toNat = false) := fun i h1 h2 => by
          by_cases hi : i < pos
          · exact HC.out i hi h2
          · exact hdc hb i (by omega) h1
        clear hdb hdc hb
        go_wp2_with (go_at_call 92; go_must (refine HB.out.mono ?_; rintro r w2 ⟨rfl, hw2⟩; replace hw2 := hw2.symm; subst hw2))
        go_roundg g'
        case measure => omega
        case rel => exact ⟨pos + K, hit2, hbw2, HC2, by omega⟩
      · rw [hb] at HB
        have HE : Hid (hasBar s = true) := (hasBar_iff s).2 ⟨pos, hps, hdb hb⟩
        clear hdb hdc hb
        go_wp2_with (go_at_call 92; go_must (refine HB.out.mono ?_; rintro r w2 ⟨rfl, hw2⟩; replace hw2 := hw2.symm; subst hw2))
        go_ret
        exact ⟨_, rfl, ⟨fun _ => HE.out, fun _ => by omega⟩, hbw2⟩
    · have hnx : ∀ ty, (Instr.next (.pointer (some ⟨w.heap.size, 0, none⟩)) true ty).run Tryz.prog wr = _ := fun ty => Lib.run_next_end_at wr w.heap.size s pos ty hit hps
      have HE : Hid (¬ hasBar s = true) := fun h => by
        obtain ⟨i, hi, hb⟩ := (hasBar_iff s).1 h
        rw [HC.out i (by omega) hi] at hb
        cases hb
      go_wp2
      go_ret
      exact ⟨-1, rfl, ⟨fun h => absurd h (by omega), fun h => absurd h HE.out⟩, hbw⟩
theorem contains41 (s : ByteArray) (w : World) : Calls Tryz.prog 91 #[.string s, .func (.func 92) #[] #[]] w fun e w' => e = .returned (.bool (hasBar s)) ∧ Below w.heap.size w w' := by
  have HI : Hid (Calls Tryz.prog 104 #[.string s, .func (.func 92) #[] #[]] w fun e w' => ∃ i : Int, e = .returned (.int .i64 i) ∧ (0 ≤ i ↔ hasBar s = true) ∧ Below w.heap.size w w') := by
    show Calls _ _ _ _ _
    have HI : Hid (Calls Tryz.prog 110 #[.string s, .func (.func 92) #[] #[], .bool true] w fun e w' => ∃ i : Int, e = .returned (.int .i64 i) ∧ (0 ≤ i ↔ hasBar s = true) ∧ Below w.heap.size w w') := indexFunc89 s w
    go_enter Tryz.func104, Tryz.ntmps104
    go_wp2_with (go_at_call 110; go_must (refine HI.out.mono ?_; rintro r w2 ⟨i, rfl, hi, hb⟩; have HX : Hid (0 ≤ i ↔ hasBar s = true) := hi; clear hi))
    go_ret
    exact ⟨_, rfl, HX.out, hb⟩
  go_enter Tryz.func91, Tryz.ntmps91
  go_wp2_with (go_at_call 104; go_must (refine HI.out.mono ?_; rintro r w2 ⟨i, rfl, hi, hb⟩; have HX : Hid (0 ≤ i ↔ hasBar s = true) := hi; clear hi))
  go_ret
  exact ⟨ret_bool (by rw [← HX.out]; simp), hb⟩
/-- Is it a name? -/
def nameB (s : ByteArray) : Bool := decide (1 ≤ s.size ∧ s.size ≤ 24) && !(s.toList == [46]) && !(s.toList == [46, 46]) && !hasBar s
theorem name14 (s : ByteArray) (w : World) : Calls Tryz.prog 74 #[.string s] w fun e w' => e = .returned (.bool (nameB s)) ∧ Below w.heap.size w w' := by
  have HC : Hid (∀ w', Calls Tryz.prog 91 #[.string s, .func (.func 92) #[] #[]] w' fun e w'' => e = .returned (.bool (hasBar s)) ∧ Below w'.heap.size w' w'') := fun w' => contains41 s w'
  have HN : Hid (nameB s = (decide (1 ≤ s.size ∧ s.size ≤ 24) && !(s.toList == [46]) && !(s.toList == [46, 46]) && !hasBar s)) := (rfl : nameB s = _)
  by_cases h1 : s.size < 1
  · have h1' : (s.size : Int) < 1 := by omega
    have HE : Hid (nameB s = false) := by
      show _ = _
      rw [HN.out, decide_eq_false (by omega)]; rfl
    go_enter Tryz.func74, Tryz.ntmps74
    go_wp2
    go_ret
    exact ⟨by rw [HE.out]; rfl, Below.refl _ _⟩
  · have h1' : ¬ (s.size : Int) < 1 := by omega
    by_cases h2 : 24 < s.size
    · have h2' : (24 : Int) < (s.size : Int) := by omega
      have HE : Hid (nameB s = false) := by
        show _ = _
        rw [HN.out, decide_eq_false (by omega)]; rfl
      go_enter Tryz.func74, Tryz.ntmps74
      go_wp2
      go_ret
      exact ⟨by rw [HE.out]; rfl, Below.refl _ _⟩
    · have h2' : ¬ (24 : Int) < (s.size : Int) := by omega
      have HN2 : Hid (nameB s = (!(s.toList == [46]) && !(s.toList == [46, 46]) && !hasBar s)) := by
        show _ = _
        rw [HN.out, decide_eq_true (by omega)]; simp
      clear HN
      generalize hasBar s = hb at *
      go_enter Tryz.func74, Tryz.ntmps74
      go_wp2_with (go_at_call 91; go_must (refine (HC.out _).mono ?_; rintro r w2 ⟨rfl, hb2⟩))
      all_goals (go_ret)
      all_goals (refine ⟨ret_bool (by (rw [HN2.out]) <;> simp [*]), ?_⟩; first | exact Below.refl _ _ | exact hb2)
end
end Go.Proofs.YthnjbjlhfohpfaaGreat
