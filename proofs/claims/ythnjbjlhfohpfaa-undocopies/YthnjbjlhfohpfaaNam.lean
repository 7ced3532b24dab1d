/-
  The reference's find and Get.
  The reference's Get.
  The reference's dir, Within and Hangs.
  Names: which strings are names; strings.ContainsFunc with the program's own test.
-/
import Derived.Test.YthnjbjlhfohpfaaRow
import Derived.Test.YthnjbjlhfohpfaaWirP
import Derived.Test.YthnjbjlhfohpfaaRs
import Derived.Laws.ResultCell
import Derived.Test.YthnjbjlhfohpfaaLsG
import Derived.Lib.OthersKept
import Derived.Lib.TrimU
import Derived.Laws.RangeString
import Derived.Shelf.Abstract
namespace Go.Proofs.Ythnjbjlhfohpfaa
section
set_option linter.unusedVariables false
set_option linter.unusedSimpArgs false
set_option synthInstance.maxSize 20000
set_option maxHeartbeats 2000000
set_option maxRecDepth 20000
open Go.RowKit Go.Maps

theorem findM_none {L : List IM} {n : S} (h : ∀ x ∈ L, ¬ x.n = n) : findM L n = none := by
  unfold findM
  rw [List.find?_eq_none]
  intro x hx
  simp [atN, h x hx]
theorem findM_some {u r : List IM} {x : IM} {n : S} (h : ∀ x ∈ u, ¬ x.n = n) (hx : x.n = n) : findM (u ++ x :: r) n = some x := by
  unfold findM
  rw [List.find?_append]
  have := findM_none h
  unfold findM at this
  rw [this, List.find?_cons_of_pos (by simp [atN, hx])]
  rfl
end

section
set_option linter.unusedVariables false
set_option linter.unusedSimpArgs false
set_option synthInstance.maxSize 20000
set_option maxHeartbeats 2000000
set_option maxRecDepth 20000
open Go.RowKit Go.Maps

/-- A block that holds one item. -/
def Itb (w : World) (b : Nat) (q : IT) : Prop := Blk w b 88 (ic q)
section
variable {w w' : World} {b : Nat} {q q' : IT}
theorem Itb.put (h : Itb w b q) : Itb (w.setCells b 0 (ic q')) b q' := by
  have := Blk.setCells h 0 (ic q') (by rw [ic_len, ic_len]; omega)
  rw [splice_all _ _ (by rw [ic_len, ic_len])] at this
  exact this
theorem Itb.there (h : Itb w b q) : w.there b 0 10 := Blk.there h 0 10 (by rw [ic_len]; omega)
theorem Itb.below (h : Itb w b q) (hb : Below w.heap.size w w') : Itb w' b q := Blk.below h hb
theorem Itb.load (h : Itb w b q) : (loadVar 88 ⟨b, 0, none⟩).run Try.prog w = .ok (iv q) w := run_loadVar_mid w b 0 88 (ic q) _ (Blk.range0 h) Try.underlying88 rfl (by rw [ic_len]; exact info41)
theorem Itb.range (h : Itb w b q) : w.rangeAt b 0 (ic q) := Blk.range0 h
theorem below_put {w0 : World} {xs : List Value} (h : Below w0.heap.size w0 w) (hb : w0.heap.size ≤ b) : Below w0.heap.size w0 (w.setCells b 0 xs) := bgrown h hb (grown_setCells b xs 0 w)
end
/-- What Get answers: the item of that stamp, and whether it is there. -/
structure GotT (w : World) (L : List IT) (n : S) (x : IT) (b : Bool) : Prop where
  is : b = (findM (L.map IT.m) n).isSome
  m : x.m = (findM (L.map IT.m) n).getD zM
  rd : Rd w x.v x.m.b
  mem : b = true → x ∈ L ∧ x.m.n = n
  no : b = false → x = zT
theorem GotT.below {w w' : World} {L : List IT} {n : S} {x : IT} {b : Bool} (h : GotT w L n x b) (hb : Below w.heap.size w w') : GotT w' L n x b := ⟨h.is, h.m, h.rd.below hb, h.mem, h.no⟩
def GetAns (w : World) (L : List IT) (n : S) (e : Ending) (w' : World) : Prop := ∃ x b, e = .returned (.tuple #[iv x, .bool b]) ∧ GotT w' L n x b ∧ Below w.heap.size w w'
end

section
set_option linter.unusedVariables false
set_option linter.unusedSimpArgs false
set_option synthInstance.maxSize 20000
set_option maxHeartbeats 2000000
set_option maxRecDepth 20000
open Go.RowKit Go.Maps

theorem exec_alloc41 {o : Oper} {r : Operand → Value} {w : World} (ho : o.op = .alloc 88) : (execOp r o).run Try.prog w = .ok (.value (ptr w.heap.size)) (w.alloc (.cells (ic zT).toArray 88)) := by
  unfold execOp
  simp only [ho]
  go_simp
  rfl
theorem itb_new (w : World) (x : IT) : Itb (w.alloc (.cells (ic x).toArray 88)) w.heap.size x := blk_new w (ic x) 88
/-- A new item's block, into which an item is put. -/
theorem item_put {w0 w w3 w4 : World} {g : Nat} {x : IT} (hb : Below w0.heap.size w0 w) (h3 : w3 = w.alloc (.cells (ic zT).toArray 88)) (hg : g = w.heap.size) (h4 : w4 = w3.setCells g 0 (ic x)) : Itb w4 g x ∧ Below w0.heap.size w0 w4 ∧ Below w.heap.size w w4 ∧ w0.heap.size ≤ g := by
  subst h3 hg h4
  exact ⟨(itb_new w zT).put, below_put (balloc hb _) hb.size, below_put (balloc (Below.refl _ _) _) (Nat.le_refl _), hb.size⟩
theorem dirM_got {w : World} {L : List IT} {n : S} {x : IT} {b : Bool} (h : GotT w L n x b) : dirM (L.map IT.m) n = (decide (n = (0, 0)) || (b && x.m.d)) := by
  unfold dirM
  rw [h.is, h.m]
  cases findM (L.map IT.m) n <;> rfl
theorem exec_store24 {o : Oper} {r : Operand → Value} {w : World} {b off : Nat} {s1 s2 : Int} (x y : Operand) (ho : o.op = .store 33 x y) (hx : r x = .pointer (some ⟨b, off, none⟩)) (hy : r y = .agg #[.int .i64 s1, .int .i64 s2]) (ht : w.there b off 2) : (execOp r o).run Try.prog w = .ok .skip (w.setCells b off [.int .i64 s1, .int .i64 s2]) := by
  have h := run_storeAt_mid (P := Try.prog) w b off 33 #[.int .i64 s1, .int .i64 s2] (by simpa using ht) (by kernel_rfl) (all_oneCell_toArray (cs := [.int .i64 s1, .int .i64 s2]) (fun u hu => by simp at hu; rcases hu with rfl | rfl <;> rfl))
  unfold execOp
  simp only [ho, hx, hy, Sem.run_bind, h, Result.andThen_ok, Sem.run_pure]
theorem Blk.put2 {w : World} {b : Nat} {e : TypeId} {x1 x2 y1 y2 : Value} (h : Blk w b e [x1, x2]) : Blk (w.setCells b 0 [y1, y2]) b e [y1, y2] := by
  have := Blk.setCells h 0 [y1, y2] (by simp)
  rwa [splice_all _ _ (by simp)] at this
theorem withinM_eq (L : List IM) (k : Nat) (n : S) : withinM L (k + 1) n n = true := by simp [withinM]
theorem withinM_no {w : World} {L : List IT} {k : Nat} {n m : S} {x : IT} (hne : ¬ m = n) (h : GotT w L m x false) : withinM (L.map IT.m) (k + 1) n m = false := by
  have h1 := h.is
  cases hf : findM (L.map IT.m) m with
  | none => simp [withinM, hne, hf]
  | some y => rw [hf] at h1; cases h1
theorem withinM_go {w : World} {L : List IT} {k : Nat} {n m : S} {x : IT} (hne : ¬ m = n) (h : GotT w L m x true) : withinM (L.map IT.m) (k + 1) n m = withinM (L.map IT.m) k n x.m.p := by
  have h1 := h.is
  have h2 := h.m
  cases hf : findM (L.map IT.m) m with
  | none => rw [hf] at h1; cases h1
  | some y => rw [hf] at h2; simp [withinM, hne, hf, h2]
theorem hangsM_eq (L : List IM) (k : Nat) : hangsM L (k + 1) (0, 0) = true := by simp [hangsM]
theorem hangsM_no {w : World} {L : List IT} {k : Nat} {n : S} {x : IT} (hne : ¬ n = (0, 0)) (h : GotT w L n x false) : hangsM (L.map IT.m) (k + 1) n = false := by
  have h1 := h.is
  cases hf : findM (L.map IT.m) n with
  | none => simp [hangsM, hne, hf]
  | some y => rw [hf] at h1; cases h1
theorem hangsM_go {w : World} {L : List IT} {k : Nat} {n : S} {x : IT} (hne : ¬ n = (0, 0)) (h : GotT w L n x true) : hangsM (L.map IT.m) (k + 1) n = if x.m.g = true then false else hangsM (L.map IT.m) k x.m.p := by
  have h1 := h.is
  have h2 := h.m
  cases hf : findM (L.map IT.m) n with
  | none => rw [hf] at h1; cases h1
  | some y => rw [hf] at h2; simp [hangsM, hne, hf, h2]
end

section
set_option linter.unusedVariables false
set_option linter.unusedSimpArgs false
set_option synthInstance.maxSize 20000
set_option maxHeartbeats 2000000
set_option maxRecDepth 20000
open Go.RowKit Go.Maps

def bar (n : Nat) : Bool := n < 32 || n == 127 || n == 47 || n == 126
theorem bar_high {n : Nat} (h : 128 ≤ n) : bar n = false := by
  unfold bar
  simp
  omega
/-- Has it a byte that no name has? -/
def hasBar (s : ByteArray) : Bool := s.data.toList.any (fun b => bar b.toNat)
theorem get_list (s : ByteArray) (i : Nat) (h : i < s.size) : s.data.toList[i]? = some (s.get! i) := by
  have e : s.get! i = s[i]'h := by
    unfold ByteArray.get!
    exact getElem!_pos s.data i h
  rw [e]
  have : i < s.data.toList.length := by simpa using h
  rw [List.getElem?_eq_getElem this]
  rfl
theorem hasBar_iff (s : ByteArray) : hasBar s = true ↔ ∃ i, i < s.size ∧ bar (s.get! i).toNat = true := by
  unfold hasBar
  rw [List.any_eq_true]
  constructor
  · rintro ⟨b, hb, h⟩
    obtain ⟨i, hi⟩ := List.mem_iff_getElem?.1 hb
    have hlt : i < s.size := by
      have := (List.getElem?_eq_some_iff.1 hi).1
      simpa using this
    rw [get_list s i hlt] at hi
    injection hi with hi
    exact ⟨i, hlt, by rw [hi]; exact h⟩
  · rintro ⟨i, hi, h⟩
    exact ⟨_, List.mem_of_getElem? (get_list s i hi), h⟩
theorem decode_bar (s : ByteArray) (pos : Nat) (h : bar (Utf8.decode s pos).1 = true) : bar (s.get! pos).toNat = true := by
  rw [Lib.decode_at] at h
  generalize (s.get! pos).toNat = b0 at *
  by_cases hb : b0 < 128
  · rw [show (Lib.decodeN (s.size - pos) b0 (s.get! (pos + 1)).toNat (s.get! (pos + 2)).toNat (s.get! (pos + 3)).toNat).1 = b0 by unfold Lib.decodeN; rw [if_pos hb]] at h
    exact h
  · exfalso
    have : 128 ≤ (Lib.decodeN (s.size - pos) b0 (s.get! (pos + 1)).toNat (s.get! (pos + 2)).toNat (s.get! (pos + 3)).toNat).1 := by
      unfold Lib.decodeN
      rw [if_neg hb]
      repeat' split
      all_goals (dsimp only; omega)
    rw [bar_high this] at h
    cases h
theorem decode_clear (s : ByteArray) (pos : Nat) (h : bar (Utf8.decode s pos).1 = false) : ∀ i, pos ≤ i → i < pos + (Utf8.decode s pos).2 → bar (s.get! i).toNat = false := by
  intro i h1 h2
  rw [Lib.decode_at] at h h2
  generalize hb0 : (s.get! pos).toNat = b0 at *
  generalize hb1 : (s.get! (pos + 1)).toNat = b1 at *
  generalize hb2 : (s.get! (pos + 2)).toNat = b2 at *
  generalize hb3 : (s.get! (pos + 3)).toNat = b3 at *
  have key : i = pos ∧ (b0 < 128 → bar b0 = false) ∨ i = pos + 1 ∧ 128 ≤ b1 ∨ i = pos + 2 ∧ 128 ≤ b2 ∨ i = pos + 3 ∧ 128 ≤ b3 := by
    by_cases hb : b0 < 128
    · unfold Lib.decodeN at h h2
      rw [if_pos hb] at h h2
      exact .inl ⟨by simp at h2; omega, fun _ => h⟩
    · unfold Lib.decodeN at h2
      rw [if_neg hb] at h2
      repeat' split at h2
      all_goals (dsimp only at h2; omega)
  rcases key with ⟨rfl, k⟩ | ⟨rfl, k⟩ | ⟨rfl, k⟩ | ⟨rfl, k⟩
  · rw [hb0]
    by_cases hb : b0 < 128
    · exact k hb
    · exact bar_high (by omega)
  · rw [hb1]; exact bar_high k
  · rw [hb2]; exact bar_high k
  · rw [hb3]; exact bar_high k
theorem barred42 (n : Nat) (w : World) : Calls Try.prog 92 #[.int .i32 (n : Int)] w fun e w' => e = .returned (.bool (bar n)) ∧ w' = w := by
  have HB : Hid (bar n = (decide (n < 32) || n == 127 || n == 47 || n == 126)) := (rfl : bar n = _)
  go_enter Try.func92, Try.ntmps92
  go_wp2
  all_goals
    go_ret
    refine ⟨ret_bool ?_, rfl⟩
    rw [HB.out]
    simp
    try omega
theorem indexFunc89 (s : ByteArray) (w : World) : Calls Try.prog 115 #[.string s, .func (.func 92) #[] #[], .bool true] w fun e w' => ∃ i : Int, e = .returned (.int .i64 i) ∧ (0 ≤ i ↔ hasBar s = true) ∧ Below w.heap.size w w' := by
  go_enter Try.func115, Try.ntmps115
  go_wp2
  go_loopg [] s.size (fun gf wx => ∃ pos : Nat, wx.heap[w.heap.size]? = some (.stringIter s pos) ∧ Below w.heap.size w wx ∧ Hid (∀ i, i < pos → i < s.size → bar (s.get! i).toNat = false) ∧ s.size ≤ pos + gf)
  case atStart => exact ⟨0, World.iter_heap w s 0, (Below.refl _ w).alloc (Nat.le_refl _) _, (fun i h => by omega), by omega⟩
  case round =>
    obtain ⟨pos, hit, hbw, HC, hfu⟩ := hrel
    by_cases hps : pos < s.size
    · obtain ⟨g', rfl⟩ : ∃ g', gk = g' + 1 := ⟨gk - 1, by omega⟩
      have hnx : ∀ ty, (Instr.next (.pointer (some ⟨w.heap.size, 0, none⟩)) true ty).run Try.prog wr = _ := fun ty => Lib.run_next_any_at wr w.heap.size s pos ty hit hps
      have hwd := Lib.width_pos s pos
      have hdb := decode_bar s pos
      have hdc := decode_clear s pos
      generalize (Utf8.decode s pos).1 = R at *
      generalize (Utf8.decode s pos).2 = K at *
      have hit2 := Lib.iterAt_heap wr w.heap.size s pos (pos + K) hit
      have hbw2 := Lib.below_iterAt hbw (k := w.heap.size) (Nat.le_refl _) s (pos + K)
      generalize wr.iterAt w.heap.size s (pos + K) = W at *
      have HB : Hid (Calls Try.prog 92 #[.int .i32 (R : Int)] W fun e w' => e = .returned (.bool (bar R)) ∧ w' = W) := barred42 R W
      cases hb : bar R
      · rw [hb] at HB
        have HC2 : Hid (∀ i, i < pos + K → i < s.size → bar (s.get! i).toNat = false) := fun i h1 h2 => by
          by_cases hi : i < pos
          · exact HC.out i hi h2
          · exact hdc hb i (by omega) h1
        clear hdb hdc hb
        go_wp2_with (go_at_call 92; go_must (refine HB.out.mono ?_; rintro r w2 ⟨rfl, hw2⟩; replace hw2 := hw2.symm; subst hw2))
        go_roundg g'
        case measure => omega
        case rel => exact ⟨pos + K, hit2, hbw2, HC2, by omega⟩
      · rw [hb] at HB
        have HE : Hid (hasBar s = true) := (hasBar_iff s).2 ⟨pos, hps, hdb hb⟩
        clear hdb hdc hb
        go_wp2_with (go_at_call 92; go_must (refine HB.out.mono ?_; rintro r w2 ⟨rfl, hw2⟩; replace hw2 := hw2.symm; subst hw2))
        go_ret
        exact ⟨_, rfl, ⟨fun _ => HE.out, fun _ => by omega⟩, hbw2⟩
    · have hnx : ∀ ty, (Instr.next (.pointer (some ⟨w.heap.size, 0, none⟩)) true ty).run Try.prog wr = _ := fun ty => Lib.run_next_end_at wr w.heap.size s pos ty hit hps
      have HE : Hid (¬ hasBar s = true) := fun h => by
        obtain ⟨i, hi, hb⟩ := (hasBar_iff s).1 h
        rw [HC.out i (by omega) hi] at hb
        cases hb
      go_wp2
      go_ret
      exact ⟨-1, rfl, ⟨fun h => absurd h (by omega), fun h => absurd h HE.out⟩, hbw⟩
theorem contains41 (s : ByteArray) (w : World) : Calls Try.prog 91 #[.string s, .func (.func 92) #[] #[]] w fun e w' => e = .returned (.bool (hasBar s)) ∧ Below w.heap.size w w' := by
  have HI : Hid (Calls Try.prog 108 #[.string s, .func (.func 92) #[] #[]] w fun e w' => ∃ i : Int, e = .returned (.int .i64 i) ∧ (0 ≤ i ↔ hasBar s = true) ∧ Below w.heap.size w w') := by
    show Calls _ _ _ _ _
    have HI : Hid (Calls Try.prog 115 #[.string s, .func (.func 92) #[] #[], .bool true] w fun e w' => ∃ i : Int, e = .returned (.int .i64 i) ∧ (0 ≤ i ↔ hasBar s = true) ∧ Below w.heap.size w w') := indexFunc89 s w
    go_enter Try.func108, Try.ntmps108
    go_wp2_with (go_at_call 115; go_must (refine HI.out.mono ?_; rintro r w2 ⟨i, rfl, hi, hb⟩; have HX : Hid (0 ≤ i ↔ hasBar s = true) := hi; clear hi))
    go_ret
    exact ⟨_, rfl, HX.out, hb⟩
  go_enter Try.func91, Try.ntmps91
  go_wp2_with (go_at_call 108; go_must (refine HI.out.mono ?_; rintro r w2 ⟨i, rfl, hi, hb⟩; have HX : Hid (0 ≤ i ↔ hasBar s = true) := hi; clear hi))
  go_ret
  exact ⟨ret_bool (by rw [← HX.out]; simp), hb⟩
/-- Is it a name? -/
def nameB (s : ByteArray) : Bool := decide (1 ≤ s.size ∧ s.size ≤ 24) && !(s.toList == [46]) && !(s.toList == [46, 46]) && !hasBar s
theorem name14 (s : ByteArray) (w : World) : Calls Try.prog 80 #[.string s] w fun e w' => e = .returned (.bool (nameB s)) ∧ Below w.heap.size w w' := by
  have HC : Hid (∀ w', Calls Try.prog 91 #[.string s, .func (.func 92) #[] #[]] w' fun e w'' => e = .returned (.bool (hasBar s)) ∧ Below w'.heap.size w' w'') := fun w' => contains41 s w'
  have HN : Hid (nameB s = (decide (1 ≤ s.size ∧ s.size ≤ 24) && !(s.toList == [46]) && !(s.toList == [46, 46]) && !hasBar s)) := (rfl : nameB s = _)
  by_cases h1 : s.size < 1
  · have h1' : (s.size : Int) < 1 := by omega
    have HE : Hid (nameB s = false) := by
      show _ = _
      rw [HN.out, decide_eq_false (by omega)]; rfl
    go_enter Try.func80, Try.ntmps80
    go_wp2
    go_ret
    exact ⟨by rw [HE.out]; rfl, Below.refl _ _⟩
  · have h1' : ¬ (s.size : Int) < 1 := by omega
    by_cases h2 : 24 < s.size
    · have h2' : (24 : Int) < (s.size : Int) := by omega
      have HE : Hid (nameB s = false) := by
        show _ = _
        rw [HN.out, decide_eq_false (by omega)]; rfl
      go_enter Try.func80, Try.ntmps80
      go_wp2
      go_ret
      exact ⟨by rw [HE.out]; rfl, Below.refl _ _⟩
    · have h2' : ¬ (24 : Int) < (s.size : Int) := by omega
      have HN2 : Hid (nameB s = (!(s.toList == [46]) && !(s.toList == [46, 46]) && !hasBar s)) := by
        show _ = _
        rw [HN.out, decide_eq_true (by omega)]; simp
      clear HN
      generalize hasBar s = hb at *
      go_enter Try.func80, Try.ntmps80
      go_wp2_with (go_at_call 91; go_must (refine (HC.out _).mono ?_; rintro r w2 ⟨rfl, hb2⟩))
      all_goals (go_ret)
      all_goals (refine ⟨ret_bool (by (rw [HN2.out]) <;> simp [*]), ?_⟩; first | exact Below.refl _ _ | exact hb2)
end
end Go.Proofs.Ythnjbjlhfohpfaa
