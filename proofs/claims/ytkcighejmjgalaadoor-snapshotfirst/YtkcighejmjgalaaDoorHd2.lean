/-
  headAt and latest of the program; wrong, half, sectors.
-/
import Derived.Test.YtkcighejmjgalaaDoorHd
namespace Go.Proofs.YtkcighejmjgalaaDoor
set_option linter.unusedVariables false
set_option linter.unusedSimpArgs false
set_option synthInstance.maxSize 20000
set_option maxHeartbeats 2000000
set_option maxRecDepth 20000
open Go.RowKit Go.Maps

def headN (s : List Int) (i : Nat) : Int := if s.length = 64 ∧ placeN (num4 (s.drop 1)) = i ∧ s = headL (num4 (s.drop 1)) then num4 (s.drop 1) else 0
theorem headN_u32 {s : List Int} (h : Oct s) (i : Nat) : U32 (headN s i) := by
  unfold headN
  split
  · exact num4_u32 (h.drop 1)
  · unfold U32; omega
theorem secB_len {s : Sec} (h : s.t = false) : (secB s).length = 64 := by
  unfold secB
  rw [h]
  exact s.len
/-- What Read tells of a sector. -/
theorem read_two {w : World} {o : Nat → Nat} {j b : Nat} {gv nv pv : Value} {D : Dk} (h : DAt w o j b gv nv pv D) (hd : D.down = false) {i : Nat} (hi : i < D.now.length) : Calls Tryd.prog 32 #[ptr b, .int .i64 (i : Int)] w fun r w' => (∃ v kd, r = .returned (.tuple #[v, .int .i64 kd]) ∧ (∃ a n c, v = .slice a n c) ∧ ((kd = 5 ∧ secB (D.now.getD i zs) = []) ∨ (kd = 0 ∧ OutR w.heap.size w' v (secB (D.now.getD i zs)) ∧ (secB (D.now.getD i zs)).length = 64))) ∧ Below w.heap.size w w' := by
  refine (read_any h (i : Int)).mono ?_
  rintro r w' ⟨v, rfl, ho, hb⟩
  refine ⟨⟨v, _, rfl, (readOut_new ho).2, ?_⟩, hb⟩
  have h9 := ho.rd
  have hn := (readOut_new ho).1
  rw [read_cont hd hi] at h9
  have h0 : D.reach (i : Int) = 0 := by
    unfold Dk.reach
    rw [hd]
    simp
    omega
  have hK : D.readK (i : Int) = if (D.readS (i : Int)).t then 5 else 0 := by unfold Dk.readK; simp [h0]
  have e : D.readS (i : Int) = D.now.getD i zs := by unfold Dk.readS; rw [Int.toNat_natCast]
  rw [e] at hK
  cases ht : (D.now.getD i zs).t
  · rw [ht] at hK
    exact .inr ⟨hK, ⟨h9, hn⟩, secB_len ht⟩
  · rw [ht] at hK
    exact .inl ⟨hK, by unfold secB; rw [ht]; rfl⟩
def headD (D : Dk) (i : Nat) : Int := headN (secB (D.now.getD i zs)) i
theorem headD_u32 (D : Dk) (i : Nat) : U32 (headD D i) := headN_u32 (secB_oct _) i
section
variable {w : World} {o : Nat → Nat} {j b : Nat} {gv nv pv : Value} {D : Dk}
theorem headAt42 (hT : Tab w) (h : DAt w o j b gv nv pv D) (hd : D.down = false) {i : Nat} (hi : i < D.now.length) (hi1 : i ≤ 1) : Calls Tryd.prog 42 #[.int .i64 (i : Int), .func (.func 32) #[ptr b] #[]] w fun r w' => r = .returned (.int .u32 (headD D i)) ∧ Below w.heap.size w w' := by
  have HR := read_two h hd hi
  have hso := secB_oct (D.now.getD i zs)
  unfold headD
  generalize secB (D.now.getD i zs) = s at *
  have HS0 : Hid (s = [] → headN s i = 0) := fun e => by subst e; unfold headN; rw [if_neg (by simp)]
  have hu : U32 (num4 (s.drop 1)) := num4_u32 (hso.drop 1)
  have HN1 : Hid (∀ w', Tab w' → ∀ v, Rd w' v s → s.length = 64 → Calls Tryd.prog 61 #[v] w' fun r w'' => r = .returned (.int .u32 (num4 (s.drop 1))) ∧ w'' = w') := fun w' t v hr hl => numbered61 t hr (by omega)
  have HPl : Hid (∀ w', Calls Tryd.prog 53 #[.int .u32 (num4 (s.drop 1))] w' fun r w'' => r = .returned (.int .i64 (placeN (num4 (s.drop 1)) : Int)) ∧ w'' = w') := fun w' => place53 _ w' hu
  have HHd : Hid (∀ w', Tab w' → ∀ v, Rd w' v s → Calls Tryd.prog 54 #[.int .u32 (num4 (s.drop 1))] w' fun r w'' => ∃ x c, r = .returned (.slice x 64 c) ∧ Below w'.heap.size w' w'' ∧ Calls Tryd.prog 62 #[v, .slice x 64 c] w'' fun r w3 => r = .returned (.bool (decide (s = headL (num4 (s.drop 1))))) ∧ w3 = w'') := fun w' t v hr => by
    refine (head54 t hu).mono ?_
    rintro r w'' ⟨rfl, hr2, hb⟩
    exact ⟨_, _, rfl, hb, equal_any _ _ _ _ w'' (hr.below hb) hr2⟩
  have HTab : Hid (∀ w', Below w.heap.size w w' → Tab w') := fun w' hb => hT.below hb hT.lt
  have HE1 : Hid (s.length = 64 → placeN (num4 (s.drop 1)) ≠ i → headN s i = 0) := fun e1 e2 => by unfold headN; rw [if_neg (fun x => e2 x.2.1)]
  have HE2 : Hid (¬ s = headL (num4 (s.drop 1)) → headN s i = 0) := fun e2 => by unfold headN; rw [if_neg (fun x => e2 x.2.2)]
  have HE3 : Hid (s.length = 64 → placeN (num4 (s.drop 1)) = i → s = headL (num4 (s.drop 1)) → headN s i = num4 (s.drop 1)) := fun e1 e2 e3 => by unfold headN; rw [if_pos ⟨e1, e2, e3⟩]
  generalize headN s i = K at *
  have hp1 : placeN (num4 (s.drop 1)) ≤ 1 := by unfold placeN; split <;> omega
  generalize placeN (num4 (s.drop 1)) = P at *
  generalize hH : headL (num4 (s.drop 1)) = HL at *
  generalize num4 (s.drop 1) = M at *
  clear h hT hso hH hi
  go_enter Tryd.func42, Tryd.ntmps42
  go_wp2_with fail
  refine HR.mono ?_
  rintro r w1 ⟨⟨v, kd, rfl, ⟨a, nn, c, rfl⟩, hcs⟩, hb1⟩
  have HB1 : Hid (Below w.heap.size w w1) := hb1
  clear hb1 HR
  rcases hcs with ⟨rfl, hse⟩ | ⟨rfl, hou, hl⟩
  · have hK := HS0.out hse
    subst hK
    clear hse HE1 HE2 HE3 HHd
    go_wp2
    go_ret
    exact ⟨rfl, HB1.out⟩
  · have HRd : Hid (Rd w1 (.slice a nn c) s) := hou.1
    have HL64 : Hid (s.length = 64) := hl
    clear hl hou
    go_wp2_with fail
    refine (HN1.out w1 (HTab.out w1 HB1.out) _ HRd.out HL64.out).mono ?_
    rintro r w2 ⟨rfl, hw2⟩
    replace hw2 := hw2.symm
    subst hw2
    by_cases hp : P = i
    · subst hp
      have HC := HHd.out w1 (HTab.out w1 HB1.out) _ HRd.out
      go_wp2_with fail
      refine (HPl.out w1).mono ?_
      rintro r w2 ⟨rfl, hw2⟩
      replace hw2 := hw2.symm
      subst hw2
      go_wp2_with fail
      refine HC.mono ?_
      rintro r w2 ⟨x, cx, rfl, hb2, HC2⟩
      have HB2 : Hid (Below w.heap.size w w2) := bnext HB1.out hb2
      clear hb2 HC
      go_wp2_with fail
      refine HC2.mono ?_
      rintro r w3 ⟨rfl, hw3⟩
      replace hw3 := hw3.symm
      subst hw3
      by_cases he : s = HL
      · have hK := HE3.out HL64.out trivial he
        rw [decide_eq_true he]
        clear he
        go_wp2
        go_ret
        exact ⟨by rw [hK]; rfl, HB2.out⟩
      · have hK := HE2.out he
        rw [decide_eq_false he]
        clear he
        go_wp2
        go_ret
        exact ⟨by rw [hK]; rfl, HB2.out⟩
    · have hK := HE1.out HL64.out hp
      have hpz : ((P : Int) != (i : Int)) = true := by simp; omega
      go_wp2_with fail
      refine (HPl.out w1).mono ?_
      rintro r w2 ⟨rfl, hw2⟩
      replace hw2 := hw2.symm
      subst hw2
      clear hp
      go_wp2
      go_ret
      exact ⟨by rw [hK]; rfl, HB1.out⟩

def latD (D : Dk) : Int := max (headD D 0) (headD D 1)
theorem latD_u32 (D : Dk) : U32 (latD D) := by
  have h0 := headD_u32 D 0
  have h1 := headD_u32 D 1
  unfold U32 latD at *
  omega
theorem latest23 (hT : Tab w) (h : DAt w o j b gv nv pv D) (hd : D.down = false) (hl : 2 ≤ D.now.length) : Calls Tryd.prog 23 #[ptr b] w fun r w' => r = .returned (.int .u32 (latD D)) ∧ Below w.heap.size w w' := by
  have HC : Hid (∀ w', Below w.heap.size w w' → ∀ i : Nat, i ≤ 1 → Calls Tryd.prog 42 #[.int .i64 (i : Int), .func (.func 32) #[ptr b] #[]] w' fun r w'' => r = .returned (.int .u32 (headD D i)) ∧ Below w.heap.size w w'') := fun w' hb i hi => by
    refine (headAt42 (hT.below hb hT.lt) (h.below hb) hd (by omega) hi).mono ?_
    rintro r w'' ⟨rfl, hb2⟩
    exact ⟨rfl, bnext hb hb2⟩
  have HM : Hid (∀ x y, headD D 0 = x → headD D 1 = y → latD D = max x y) := fun x y e1 e2 => by unfold latD; rw [e1, e2]
  have u0 := headD_u32 D 0
  have u1 := headD_u32 D 1
  obtain ⟨x, hx⟩ : ∃ x, headD D 0 = x := ⟨_, rfl⟩
  obtain ⟨y, hy⟩ : ∃ y, headD D 1 = y := ⟨_, rfl⟩
  rw [HM.out x y hx hy]
  have H0 : Hid (Calls Tryd.prog 42 #[.int .i64 0, .func (.func 32) #[ptr b] #[]] w fun r w'' => r = .returned (.int .u32 x) ∧ Below w.heap.size w w'') := by have := HC.out w (Below.refl _ _) 0 (by omega); rw [hx] at this; exact this
  have H1 : Hid (∀ w', Below w.heap.size w w' → Calls Tryd.prog 42 #[.int .i64 1, .func (.func 32) #[ptr b] #[]] w' fun r w'' => r = .returned (.int .u32 y) ∧ Below w.heap.size w w'') := fun w' hb => by have := HC.out w' hb 1 (by omega); rw [hy] at this; exact this
  rw [hx] at u0
  rw [hy] at u1
  obtain ⟨u00, u01⟩ := u0
  obtain ⟨u10, u11⟩ := u1
  clear h hT HC HM hx hy
  by_cases hxy : x < y
  case' pos => rw [show max x y = y by omega]
  case' neg => rw [show max x y = x by omega]
  all_goals
    go_enter Tryd.func23, Tryd.ntmps23
    go_wp2_with fail
    refine H0.out.mono ?_
    rintro r w1 ⟨rfl, hb1⟩
    have HB1 : Hid (Below w.heap.size w w1) := hb1
    clear hb1
    go_wp2_with fail
    refine (H1.out w1 HB1.out).mono ?_
    rintro r w2 ⟨rfl, hb2⟩
    have HB2 : Hid (Below w.heap.size w w2) := hb2
    clear hb2
    go_wp2
    go_ret
    exact ⟨rfl, HB2.out⟩
/-! ### wrong, half, sectors -/
def wrongS (D : Dk) : Int := if D.now.length < 6 then 1 else if D.down then 19 else 0
theorem wrong22 (h : DAt w o j b gv nv pv D) : Calls Tryd.prog 22 #[ptr b] w fun r w' => r = .returned (.int .i64 (wrongS D)) ∧ w' = w := by
  have H31 : Hid (Calls Tryd.prog 31 #[ptr b] w fun r w' => r = .returned (.int .i64 (D.now.length : Int)) ∧ w' = w) := sectors_any h
  have H41 : Hid (Calls Tryd.prog 41 #[ptr b] w fun r w' => r = .returned (.bool D.down) ∧ w' = w) := down_any h
  unfold wrongS
  generalize D.now.length = m at *
  generalize D.down = dn at *
  clear h
  by_cases h6 : m < 6
  · rw [if_pos h6]
    go_enter Tryd.func22, Tryd.ntmps22
    go_wp2_with (go_at_call 31; go_must (refine H31.out.mono ?_; rintro r w2 ⟨rfl, hw2⟩; replace hw2 := hw2.symm; subst hw2))
    go_ret
    exact ⟨rfl, rfl⟩
  · rw [if_neg h6]
    cases dn
    all_goals
      go_enter Tryd.func22, Tryd.ntmps22
      go_wp2_with (first
        | (go_at_call 31; go_must (refine H31.out.mono ?_; rintro r w2 ⟨rfl, hw2⟩; replace hw2 := hw2.symm; subst hw2))
        | (go_at_call 41; go_must (refine H41.out.mono ?_; rintro r w2 ⟨rfl, hw2⟩; replace hw2 := hw2.symm; subst hw2)))
      go_ret
      exact ⟨rfl, rfl⟩
theorem wrong22_nil (w : World) : Calls Tryd.prog 22 #[.pointer none] w fun r w' => r = .returned (.int .i64 23) ∧ w' = w := by
  go_enter Tryd.func22, Tryd.ntmps22
  go_wp2
  go_ret
  exact ⟨rfl, rfl⟩
def hsize (m : Nat) : Nat := (m - 2) / 2
def hbase (m : Nat) (n : Int) : Nat := 2 + placeN n * hsize m
theorem placeN_le (n : Int) : placeN n ≤ 1 := by unfold placeN; split <;> omega
theorem hbase_fits {m : Nat} (n : Int) (hm : 2 ≤ m) : hbase m n + hsize m ≤ m := by
  have h1 := placeN_le n
  unfold hbase hsize
  rcases Nat.eq_zero_or_pos (placeN n) with h | h
  · rw [h]; omega
  · rw [show placeN n = 1 by omega]; omega
theorem hsize_pos {m : Nat} (hm : 6 ≤ m) : 2 ≤ hsize m := by unfold hsize; omega
theorem half43 (h : DAt w o j b gv nv pv D) (h2 : 2 ≤ D.now.length) (hl : D.now.length ≤ 400) {n : Int} (hn : U32 n) : Calls Tryd.prog 43 #[ptr b, .int .u32 n] w fun r w' => r = .returned (.tuple #[.int .i64 (hbase D.now.length n : Int), .int .i64 (hsize D.now.length : Int)]) ∧ w' = w := by
  have H31 : Hid (Calls Tryd.prog 31 #[ptr b] w fun r w' => r = .returned (.int .i64 (D.now.length : Int)) ∧ w' = w) := sectors_any h
  have H53 : Hid (Calls Tryd.prog 53 #[.int .u32 n] w fun r w' => r = .returned (.int .i64 (placeN n : Int)) ∧ w' = w) := place53 n w hn
  have hp := placeN_le n
  unfold hbase
  generalize D.now.length = m at *
  have e1 : ((m : Int) - 2).tdiv 2 = (hsize m : Int) := by
    unfold hsize
    rw [Int.tdiv_eq_ediv_of_nonneg (by omega)]
    omega
  have e2 : hsize m ≤ 200 := by unfold hsize; omega
  generalize hsize m = sz at *
  have hpp : placeN n = 0 ∨ placeN n = 1 := by omega
  generalize placeN n = p at *
  clear h hp
  rcases hpp with rfl | rfl
  all_goals
    go_enter Tryd.func43, Tryd.ntmps43
    go_wp2_with (first
      | (go_at_call 31; go_must (refine H31.out.mono ?_; rintro r w2 ⟨rfl, hw2⟩; replace hw2 := hw2.symm; subst hw2))
      | (go_at_call 53; go_must (refine H53.out.mono ?_; rintro r w2 ⟨rfl, hw2⟩; replace hw2 := hw2.symm; subst hw2)))
    refine bodyPost_ret (results_tmp2 rfl _ _ _) rfl ⟨?_, rfl⟩
    simp
end
section
variable {w : World} {o : Nat → Nat} {j b : Nat} {D : Dk}
theorem ssect45 (h : DIs w o j b D) (hd : D.down = false) {base size : Nat} (hbs : base + size ≤ D.now.length) (hl : D.now.length ≤ 400) : Calls Tryd.prog 45 #[ptr b, .int .i64 (base : Int), .int .i64 (size : Int)] w fun r w' => ∃ v, r = .returned v ∧ OutL w.heap.size w' v (cont D base size) ∧ Below w.heap.size w w' := by
  obtain ⟨gv, nv, pv, h⟩ := h
  obtain ⟨w1, hw1⟩ : ∃ w1, w1 = w.alloc (.cells (List.replicate size nilv).toArray 30) := ⟨_, rfl⟩
  have HF : Hid (Fill w w1 w.heap.size (cont D base size) size 0 []) := ⟨rfl, rfl, (fun q hq => by cases hq), (fun q hq => by cases hq), by rw [hw1]; exact blk_new w _ 30, by rw [hw1]; exact balloc (Below.refl _ _) _⟩
  have HW1 : Hid (w1 = w.alloc (.cells (List.replicate size nilv).toArray 30)) := hw1
  have HRead : Hid (∀ wr (k : Nat), k < size → Below w.heap.size w wr → Calls Tryd.prog 32 #[ptr b, .int .i64 ((base : Int) + (k : Int))] wr fun r w' => ∃ v kd, r = .returned (.tuple #[v, .int .i64 kd]) ∧ Rd w' v (secB (D.now.getD (base + k) zs)) ∧ (∀ i, v.ownBlock = some i → wr.heap.size ≤ i) ∧ Below wr.heap.size wr w') := fun wr k hk hb => by
    have := read_any (h.below hb) ((base + k : Nat) : Int)
    rw [Int.natCast_add] at this
    refine this.mono ?_
    rintro r w' ⟨v, rfl, ho, hb2⟩
    refine ⟨v, _, rfl, ?_, (readOut_new ho).1, hb2⟩
    have h9 := ho.rd
    rw [← Int.natCast_add, read_cont hd (by omega)] at h9
    exact h9
  have hsz : size ≤ 400 := by omega
  have hbz : base ≤ 400 := by omega
  clear hw1 h
  go_enter Tryd.func45, Tryd.ntmps45
  go_wp2_with (refine wpList_ok rfl (exec_make25 (n := size) (.tmp 9) (.tmp 9) rfl rfl rfl (by omega)) ?_; rw [← HW1.out])
  go_loopw [13] (fun kv wr => ∃ (k : Nat) (qs : List VB), k ≤ size ∧ kv = .int .i64 k ∧ Hid (Fill w wr w.heap.size (cont D base size) size k qs)) (fun kv _ => size - (intOf kv).toNat)
  case atStart => exact ⟨0, [], Nat.zero_le _, rfl, HF⟩
  case round =>
    obtain ⟨k, qs, hk, rfl, hF⟩ := hrel
    by_cases hlt : k < size
    · have HR := HRead.out wr k hlt hF.out.bel
      have HStep : Hid (∀ w2 v, Rd w2 v (secB (D.now.getD (base + k) zs)) → (∀ j, v.ownBlock = some j → wr.heap.size ≤ j) → Below wr.heap.size wr w2 → w2.cell? ⟨w.heap.size, k, none⟩ = some nilv ∧ w2.frozen? ⟨w.heap.size, k, none⟩ = false ∧ Fill w (w2.setCell ⟨w.heap.size, k, none⟩ v) w.heap.size (cont D base size) size (k + 1) (qs ++ [(v, secB (D.now.getD (base + k) zs))])) := fun w2 v h1 h2 h3 => hF.out.step hlt (cont_at hbs hlt) h1 h2 h3
      generalize secB (D.now.getD (base + k) zs) = sec at *
      go_wp2_with (go_at_call 32; go_must (refine HR.mono ?_; rintro r w2 ⟨v2, kd, rfl, hr2, hn2, hb2⟩; obtain ⟨a2, c2, hv2⟩ := hr2.len; subst hv2; obtain ⟨l1, l2, hK2⟩ := HStep.out w2 _ hr2 hn2 hb2; have HK2 : Hid (Fill w (w2.setCell ⟨w.heap.size, k, none⟩ (.slice a2 sec.length c2)) w.heap.size (cont D base size) size (k + 1) (qs ++ [(.slice a2 sec.length c2, sec)])) := hK2; clear hr2 hn2 hb2 hK2))
      go_roundw
      case rel => exact ⟨k + 1, _, by omega, by go_num, HK2⟩
      case measure => simp [intOf]; omega
    · obtain rfl : k = size := by omega
      have HD : Hid (OutL w.heap.size wr (.slice (some ⟨w.heap.size, 0, none⟩) k k) (cont D base k)) := hF.out.done (cont_len hbs) hsz
      go_wp2
      go_ret
      exact ⟨_, rfl, HD.out, hF.out.bel⟩

end
end Go.Proofs.YtkcighejmjgalaaDoor
