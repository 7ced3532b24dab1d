/-
  The disk's Write, Sync, Arm, Restart, Copy.
-/
import Derived.Test.YtkcighejmjgalaaDoorDsk4
import Derived.Test.YtkcighejmjgalaaDoorArgsD
namespace Go.Proofs.YtkcighejmjgalaaDoor
set_option linter.unusedVariables false
set_option linter.unusedSimpArgs false
set_option synthInstance.maxSize 20000
set_option maxHeartbeats 2000000
set_option maxRecDepth 20000
open Go.RowKit Go.Maps

theorem eql_slice (t e : TypeId) (hu : Tryd.prog.underlying t = some (.slice e)) (w : World) (a : Option Addr) (n c : Nat) : (binOp .eql t (.slice a n c) (.slice none 0 0)).run Tryd.prog w = .ok (.bool a.isNone) w := by
  have key : ∀ d, (Op.equalIn (d + 1) t (.slice a n c) (.slice none 0 0)).run Tryd.prog w = .ok a.isNone w := fun d => by
    cases a <;> simp [Op.equalIn, run_underlying hu, Result.andThen]
  have e1 : (binOp .eql t (.slice a n c) (.slice none 0 0)).run Tryd.prog w = ((Op.equalIn (9999 + 1) t (.slice a n c) (.slice none 0 0)).run Tryd.prog w).andThen fun b w' => .ok (.bool b) w' := by
    simp only [binOp]
    simp [Op.equal, Op.maxDepth]
  rw [e1, key]
  rfl

theorem clone54 {w : World} {v : Value} {l : List Sec} (hv : RowF kc w v l) (hfew : l.length ≤ 3000) :
    Calls Tryd.prog 33 #[v] w fun r w' => ∃ v', r = .returned v' ∧ w'.ownsRow 0 76 65 v' l.length (flat kc l) ∧ (∀ k, v'.ownBlock = some k → w.heap.size ≤ k) ∧ Below w.heap.size w w' := by
  have HV : Hid (RowF kc w v l) := hv
  obtain ⟨a, cap, rfl, h2, h3, h4, h5⟩ := hv
  cases a with
  | none =>
    have hc := h4 rfl
    subst hc
    have hl0 : l = [] := List.eq_nil_of_length_eq_zero (by omega)
    subst hl0
    have hq := eql_slice 53 76 (by kernel_rfl) w none 0 0
    go_enter Tryd.func33, Tryd.ntmps33
    go_wp2
    go_ret
    exact ⟨_, rfl, World.ownsRow_nil _ _ _ _, (fun k hk => by cases hk), Below.refl _ _⟩
  | some ad =>
    have hq := eql_slice 53 76 (by kernel_rfl) w (some ad) l.length cap
    have HO : Hid ((w.alloc (.cells #[] 76)).ownsRow 0 76 65 (.slice (some ⟨w.heap.size, 0, none⟩) 0 0) ([] : List Sec).length (flat kc [])) :=
      ⟨rfl, .inr ⟨w.heap.size, 0, #[], rfl, Nat.zero_le _, heap_alloc_new w _, Nat.le_refl _, Nat.zero_le _, rfl, rfl⟩⟩
    have HB : Hid (Below w.heap.size w (w.alloc (.cells #[] 76))) := (show Below _ _ _ from balloc (Below.refl _ _) _)
    clear h5
    go_enter Tryd.func33, Tryd.ntmps33
    go_wp2_with (at_builtin; go_must (refine wpList_append_rows ty54 kc_len (by omega) rfl (.tmp 5) (.tmp 6) rfl _ [] rfl HO.out _ l rfl (HV.out.below HB.out) (flat_kc_one _) (by simp; omega) ?_; intro v2 w2 hown2 hg2 hwh2))
    go_ret
    refine ⟨_, rfl, by simpa using hown2, fun k hk => ?_, ?_⟩
    · rcases hwh2 k hk with r | r
      · cases r
        exact Nat.le_refl _
      · have := HB.out.size
        omega
    · exact bgrown HB.out (Nat.le_refl _) hg2

theorem clone55 {w : World} {v : Value} {l : List Wr} (hv : RowF wc w v l) (hfew : l.length ≤ 3000) :
    Calls Tryd.prog 34 #[v] w fun r w' => ∃ v', r = .returned v' ∧ w'.ownsRow 0 79 66 v' l.length (flat wc l) ∧ (∀ k, v'.ownBlock = some k → w.heap.size ≤ k) ∧ Below w.heap.size w w' := by
  have HV : Hid (RowF wc w v l) := hv
  obtain ⟨a, cap, rfl, h2, h3, h4, h5⟩ := hv
  cases a with
  | none =>
    have hc := h4 rfl
    subst hc
    have hl0 : l = [] := List.eq_nil_of_length_eq_zero (by omega)
    subst hl0
    have hq := eql_slice 54 79 (by kernel_rfl) w none 0 0
    go_enter Tryd.func34, Tryd.ntmps34
    go_wp2
    go_ret
    exact ⟨_, rfl, World.ownsRow_nil _ _ _ _, (fun k hk => by cases hk), Below.refl _ _⟩
  | some ad =>
    have hq := eql_slice 54 79 (by kernel_rfl) w (some ad) l.length cap
    have HO : Hid ((w.alloc (.cells #[] 79)).ownsRow 0 79 66 (.slice (some ⟨w.heap.size, 0, none⟩) 0 0) ([] : List Wr).length (flat wc [])) :=
      ⟨rfl, .inr ⟨w.heap.size, 0, #[], rfl, Nat.zero_le _, heap_alloc_new w _, Nat.le_refl _, Nat.zero_le _, rfl, rfl⟩⟩
    have HB : Hid (Below w.heap.size w (w.alloc (.cells #[] 79))) := (show Below _ _ _ from balloc (Below.refl _ _) _)
    clear h5
    go_enter Tryd.func34, Tryd.ntmps34
    go_wp2_with (at_builtin; go_must (refine wpList_append_rows ty55 wc_len (by omega) rfl (.tmp 5) (.tmp 6) rfl _ [] rfl HO.out _ l rfl (HV.out.below HB.out) (flat_wc_one _) (by simp; omega) ?_; intro v2 w2 hown2 hg2 hwh2))
    go_ret
    refine ⟨_, rfl, by simpa using hown2, fun k hk => ?_, ?_⟩
    · rcases hwh2 k hk with r | r
      · cases r
        exact Nat.le_refl _
      · have := HB.out.size
        omega
    · exact bgrown HB.out (Nat.le_refl _) hg2

section
variable {w : World} {o : Nat → Nat} {j b : Nat} {gv nv pv : Value} {D : Dk}
theorem each_any (k : Int) (w : World) : Calls Tryd.prog 68 #[.int .i64 k] w fun r w' => r = .returned (.bool true) ∧ w' = w := by
  go_enter Tryd.func68, Tryd.ntmps68
  go_wp2
  go_ret
  exact ⟨rfl, rfl⟩
theorem keeps_any {kv : Value} {ks : List Bool} (hk : RowF bc w kv ks) (k : Nat) (hk2 : k ≤ 9223372036854775807) : Calls Tryd.prog 40 #[kv, .int .i64 (k : Int)] w fun r w' => r = .returned (.bool (keeps ks k)) ∧ w' = w := by
  obtain ⟨a, cap, rfl⟩ := hk.len
  have hcap := hk.caps
  by_cases h : k < ks.length
  · obtain ⟨x, hx⟩ : ∃ x, ks[k]? = some x := ⟨_, List.getElem?_eq_getElem h⟩
    obtain ⟨g, off, rfl, hr⟩ := hk.at bc_len hx
    have c0 := hr 0 _ rfl
    have e : keeps ks k = x := by unfold keeps; rw [List.getD_eq_getElem?_getD, hx]; rfl
    rw [e]
    simp only [Nat.mul_one, Nat.add_zero] at c0
    have h' : (k : Int) < (ks.length : Int) := by omega
    clear hk hr hx e
    generalize ks.length = n at *
    go_enter Tryd.func40, Tryd.ntmps40
    go_wp2
    go_ret
    exact ⟨rfl, rfl⟩
  · have e : keeps ks k = false := by unfold keeps; rw [List.getD_eq_getElem?_getD, List.getElem?_eq_none (by omega)]; rfl
    rw [e]
    clear hk e
    generalize ks.length = n at *
    have h' : ¬ (k : Int) < (n : Int) := by omega
    go_enter Tryd.func40, Tryd.ntmps40
    go_wp2
    go_ret
    exact ⟨rfl, rfl⟩

theorem write_nil (w : World) (i : Int) (bv : Value) : Calls Tryd.prog 52 #[.pointer none, .int .i64 i, bv] w fun r w' => r = .returned (.int .i64 23) ∧ w' = w := by
  have HR : Hid (Calls Tryd.prog 60 #[.pointer none, .int .i64 i] w fun r w' => r = .returned (.int .i64 23) ∧ w' = w) := reach_nil w i
  go_enter Tryd.func52, Tryd.ntmps52
  go_wp2_with (go_at_call 60; go_must (refine HR.out.mono ?_; rintro r w2 ⟨rfl, hw2⟩; replace hw2 := hw2.symm; subst hw2))
  go_ret
  exact ⟨rfl, rfl⟩
theorem write_any {N : Nat} (h : DAt w o j b gv nv pv D) (hok : DOk D N) (hN : N ≤ 2000) (i : Int) {bv : Value} {l : List Int} (hbv : Rd w bv l) : Calls Tryd.prog 52 #[ptr b, .int .i64 i, bv] w fun r w' => r = .returned (.int .i64 (D.write i l).1) ∧ ∃ o', DIs w' o' j b (D.write i l).2 ∧ Mv [j] w o w' o' := by
  have HR : Hid (Calls Tryd.prog 60 #[ptr b, .int .i64 i] w fun r w' => r = .returned (.int .i64 (D.reach i)) ∧ w' = w) := reach_any h i
  obtain ⟨a, cap, rfl⟩ := hbv.len
  have hcap := hbv.cap
  by_cases h0 : D.reach i = 0
  · obtain ⟨hd, hi0, hi1⟩ := reach_zero h0
    obtain ⟨n, rfl⟩ := Int.eq_ofNat_of_zero_le hi0
    rw [h0] at HR
    by_cases hl : l.length = 64
    · have c4 := h.c4
      have c5 := h.c5
      by_cases hc : D.armed = true ∧ D.left = 0
      · have e : D.write (n : Int) l = (19, D.fall n) := by unfold Dk.write; rw [if_neg (by simp [h0]), if_neg (by simp [hl]), if_pos hc]; rfl
        rw [e]
        have HG : Hid (Calls Tryd.prog 66 #[ptr b, .int .i64 (n : Int)] w fun r w' => r = .returned (.tuple #[]) ∧ ∃ o', DIs w' o' j b (D.fall n) ∧ Mv [j] w o w' o') := godown_any h n (Nat.le_trans hok.pl hN)
        rw [hc.1] at c4
        rw [hc.2] at c5
        rw [hl] at hcap ⊢
        clear h hbv h0 hi0 hi1 hd e hc hok hl
        go_enter Tryd.func52, Tryd.ntmps52
        go_wp2_with (first
          | (go_at_call 60; go_must (refine HR.out.mono ?_; rintro r w2 ⟨rfl, hw2⟩; replace hw2 := hw2.symm; subst hw2))
          | (go_at_call 66; go_must (refine HG.out.mono ?_; rintro r w3 ⟨rfl, h3⟩)))
        go_ret
        exact ⟨rfl, h3⟩
      · have e : D.write (n : Int) l = (0, D.put n (mkS l)) := by unfold Dk.write; rw [if_neg (by simp [h0]), if_neg (by simp [hl]), if_neg hc]; rfl
        rw [e]
        have HG : Hid (Calls Tryd.prog 67 #[ptr b, .int .i64 (n : Int), .slice a l.length cap] w fun r w' => r = .returned (.tuple #[]) ∧ ∃ o', DIs w' o' j b (D.put n (mkS l)) ∧ Mv [j] w o w' o') := put_any h (by omega) hl hbv (Nat.le_trans hok.pl hN) ⟨hok.w0, by have := hok.wN; omega⟩ ⟨hok.l0, hok.lm⟩
        rw [hl] at hcap HG ⊢
        cases har : D.armed
        · rw [har] at c4
          clear h hbv h0 hi0 hi1 hd e hc hok hl har
          go_enter Tryd.func52, Tryd.ntmps52
          go_wp2_with (first
            | (go_at_call 60; go_must (refine HR.out.mono ?_; rintro r w2 ⟨rfl, hw2⟩; replace hw2 := hw2.symm; subst hw2))
            | (go_at_call 67; go_must (refine HG.out.mono ?_; rintro r w3 ⟨rfl, h3⟩)))
          go_ret
          exact ⟨rfl, h3⟩
        · rw [har] at c4
          have hne : ¬ D.left = 0 := fun e => hc ⟨har, e⟩
          have hne2 : (D.left == 0) = false := by simpa using hne
          clear h hbv h0 hi0 hi1 hd e hc hok hl har
          go_enter Tryd.func52, Tryd.ntmps52
          go_wp2_with (first
            | (go_at_call 60; go_must (refine HR.out.mono ?_; rintro r w2 ⟨rfl, hw2⟩; replace hw2 := hw2.symm; subst hw2))
            | (go_at_call 67; go_must (refine HG.out.mono ?_; rintro r w3 ⟨rfl, h3⟩)))
          go_ret
          exact ⟨rfl, h3⟩
    · have e : D.write (n : Int) l = (1, D) := by unfold Dk.write; rw [if_neg (by simp [h0]), if_pos hl]
      rw [e]
      have HD : Hid (∃ o', DIs w o' j b D ∧ Mv [j] w o w o') := ⟨o, ⟨_, _, _, h⟩, Mv.refl _ _ _⟩
      clear h hbv h0 hi0 hi1 hd e hok
      generalize l.length = L at *
      have hl2 : ¬ (L : Int) = 64 := by omega
      go_enter Tryd.func52, Tryd.ntmps52
      go_wp2_with (go_at_call 60; go_must (refine HR.out.mono ?_; rintro r w2 ⟨rfl, hw2⟩; replace hw2 := hw2.symm; subst hw2))
      go_ret
      exact ⟨rfl, HD.out⟩
  · have e : D.write i l = (D.reach i, D) := by unfold Dk.write; rw [if_pos h0]
    rw [e]
    have HD : Hid (∃ o', DIs w o' j b D ∧ Mv [j] w o w o') := ⟨o, ⟨_, _, _, h⟩, Mv.refl _ _ _⟩
    clear h hbv e hok
    dsimp only
    generalize D.reach i = k at *
    have hkn : (k != 0) = true := by simpa using h0
    clear h0
    go_enter Tryd.func52, Tryd.ntmps52
    go_wp2_with (go_at_call 60; go_must (refine HR.out.mono ?_; rintro r w2 ⟨rfl, hw2⟩; replace hw2 := hw2.symm; subst hw2))
    go_ret
    exact ⟨rfl, HD.out⟩

theorem sync_nil (w : World) : Calls Tryd.prog 56 #[.pointer none] w fun r w' => r = .returned (.int .i64 23) ∧ w' = w := by
  have HR : Hid (Calls Tryd.prog 38 #[.pointer none] w fun r w' => r = .returned (.int .i64 23) ∧ w' = w) := ready_nil w
  go_enter Tryd.func56, Tryd.ntmps56
  go_wp2_with (go_at_call 38; go_must (refine HR.out.mono ?_; rintro r w2 ⟨rfl, hw2⟩; replace hw2 := hw2.symm; subst hw2))
  go_ret
  exact ⟨rfl, rfl⟩
theorem sync_any {N : Nat} (h : DAt w o j b gv nv pv D) (hok : DOk D N) (hN : N ≤ 2000) : Calls Tryd.prog 56 #[ptr b] w fun r w' => r = .returned (.int .i64 D.sync.1) ∧ ∃ o', DIs w' o' j b D.sync.2 ∧ Mv [j] w o w' o' := by
  have HR : Hid (Calls Tryd.prog 38 #[ptr b] w fun r w' => r = .returned (.int .i64 D.ready) ∧ w' = w) := ready_any h
  have HD : Hid (∃ o', DIs w o' j b D ∧ Mv [j] w o w o') := ⟨o, ⟨_, _, _, h⟩, Mv.refl _ _ _⟩
  have HS : Hid (Calls Tryd.prog 39 #[ptr b, .func (.func 68) #[] #[]] w fun r w' => r = .returned (.tuple #[]) ∧ ∃ o', DIs w' o' j b (D.settled (fun _ => true)) ∧ Mv [j] w o w' o') :=
    settle_each h (fun q hq => by rw [hok.len]; exact hok.at' q hq) (fun k w' o' _ _ => each_any _ _) (Nat.le_trans hok.pl hN) (by rw [hok.len]; exact hok.few)
  unfold Dk.sync
  unfold Dk.ready at HR
  clear h
  cases hd : D.down
  · rw [hd] at HR
    have HR2 : Hid (Calls Tryd.prog 38 #[ptr b] w fun r w' => r = .returned (.int .i64 0) ∧ w' = w) := HR.out
    clear HR hd
    rw [if_neg (by simp)]
    dsimp only
    go_enter Tryd.func56, Tryd.ntmps56
    go_wp2_with (first
      | (go_at_call 38; go_must (refine HR2.out.mono ?_; rintro r w2 ⟨rfl, hw2⟩; replace hw2 := hw2.symm; subst hw2))
      | (go_at_call 39; go_must (refine HS.out.mono ?_; rintro r w3 ⟨rfl, h3⟩)))
    go_ret
    exact ⟨rfl, h3⟩
  · rw [hd] at HR
    have HR2 : Hid (Calls Tryd.prog 38 #[ptr b] w fun r w' => r = .returned (.int .i64 19) ∧ w' = w) := HR.out
    clear HR hd
    rw [if_pos rfl]
    dsimp only
    go_enter Tryd.func56, Tryd.ntmps56
    go_wp2_with (go_at_call 38; go_must (refine HR2.out.mono ?_; rintro r w2 ⟨rfl, hw2⟩; replace hw2 := hw2.symm; subst hw2))
    go_ret
    exact ⟨rfl, HD.out⟩

theorem arm_nil (w : World) (n : Int) : Calls Tryd.prog 19 #[.pointer none, .int .i64 n] w fun r w' => r = .returned (.int .i64 23) ∧ w' = w := by
  have HR : Hid (Calls Tryd.prog 38 #[.pointer none] w fun r w' => r = .returned (.int .i64 23) ∧ w' = w) := ready_nil w
  go_enter Tryd.func19, Tryd.ntmps19
  go_wp2_with (go_at_call 38; go_must (refine HR.out.mono ?_; rintro r w2 ⟨rfl, hw2⟩; replace hw2 := hw2.symm; subst hw2))
  go_ret
  exact ⟨rfl, rfl⟩
theorem arm_any (h : DAt w o j b gv nv pv D) (n : Int) : Calls Tryd.prog 19 #[ptr b, .int .i64 n] w fun r w' => r = .returned (.int .i64 (D.arm n).1) ∧ ∃ o', DIs w' o' j b (D.arm n).2 ∧ Mv [j] w o w' o' := by
  have HR : Hid (Calls Tryd.prog 38 #[ptr b] w fun r w' => r = .returned (.int .i64 D.ready) ∧ w' = w) := ready_any h
  have HD : Hid (∃ o', DIs w o' j b D ∧ Mv [j] w o w o') := ⟨o, ⟨_, _, _, h⟩, Mv.refl _ _ _⟩
  have d1 := h.setArmed true
  have d2 := d1.1.setLeft n
  have HE : Hid (∃ o', DIs ((w.setCell ⟨b, 4, none⟩ (.bool true)).setCell ⟨b, 5, none⟩ (.int .i64 n)) o' j b { D with armed := true, left := n } ∧ Mv [j] w o ((w.setCell ⟨b, 4, none⟩ (.bool true)).setCell ⟨b, 5, none⟩ (.int .i64 n)) o') := ⟨o, ⟨_, _, _, d2.1⟩, d1.2.trans d2.2⟩
  have c4 := h.c4
  have c5 := h.c5
  have f4 := h.blk.frozen 4
  have f5 := h.blk.frozen 5
  unfold Dk.arm
  unfold Dk.ready at HR
  clear h d1 d2
  cases hd : D.down
  · rw [hd] at HR HE
    have HR2 : Hid (Calls Tryd.prog 38 #[ptr b] w fun r w' => r = .returned (.int .i64 0) ∧ w' = w) := HR.out
    clear HR hd
    rw [if_neg (by simp)]
    by_cases hn : n < 0
    · rw [if_pos hn]
      dsimp only
      go_enter Tryd.func19, Tryd.ntmps19
      go_wp2_with (go_at_call 38; go_must (refine HR2.out.mono ?_; rintro r w2 ⟨rfl, hw2⟩; replace hw2 := hw2.symm; subst hw2))
      go_ret
      exact ⟨rfl, HD.out⟩
    · rw [if_neg hn]
      dsimp only
      go_enter Tryd.func19, Tryd.ntmps19
      go_wp2_with (go_at_call 38; go_must (refine HR2.out.mono ?_; rintro r w2 ⟨rfl, hw2⟩; replace hw2 := hw2.symm; subst hw2))
      go_ret
      exact ⟨rfl, HE.out⟩
  · rw [hd] at HR
    have HR2 : Hid (Calls Tryd.prog 38 #[ptr b] w fun r w' => r = .returned (.int .i64 19) ∧ w' = w) := HR.out
    clear HR hd
    rw [if_pos rfl]
    dsimp only
    go_enter Tryd.func19, Tryd.ntmps19
    go_wp2_with (go_at_call 38; go_must (refine HR2.out.mono ?_; rintro r w2 ⟨rfl, hw2⟩; replace hw2 := hw2.symm; subst hw2))
    go_ret
    exact ⟨rfl, HD.out⟩

theorem restart_nil (w : World) (kv : Value) : Calls Tryd.prog 20 #[.pointer none, kv] w fun r w' => r = .returned (.int .i64 23) ∧ w' = w := by
  go_enter Tryd.func20, Tryd.ntmps20
  go_wp2
  go_ret
  exact ⟨rfl, rfl⟩
theorem restart_any {N : Nat} (h : DAt w o j b gv nv pv D) (hok : DOk D N) (hN : N ≤ 2000) {kv : Value} {ks : List Bool} (hks : ∀ w' o', Mv [j] w o w' o' → RowF bc w' kv ks) : Calls Tryd.prog 20 #[ptr b, kv] w fun r w' => r = .returned (.int .i64 0) ∧ ∃ o', DIs w' o' j b (D.restart ks) ∧ Mv [j] w o w' o' := by
  have HS : Hid (Calls Tryd.prog 39 #[ptr b, .func (.func 40) #[kv] #[]] w fun r w' => r = .returned (.tuple #[]) ∧ ∃ o', DIs w' o' j b (D.settled (keeps ks)) ∧ Mv [j] w o w' o') :=
    settle_kept h (fun q hq => by rw [hok.len]; exact hok.at' q hq) (fun k w' o' hk m => keeps_any (hks w' o' m) k (by have := hok.pl; omega)) (Nat.le_trans hok.pl hN) (by rw [hok.len]; exact hok.few)
  have HOk : Hid (DOk (D.settled (keeps ks)) N) := hok.settled _
  clear h
  have he : D.restart ks = { D.settled (keeps ks) with now := (D.settled (keeps ks)).good, down := false, armed := false, left := 0 } := rfl
  rw [he]
  clear he
  generalize D.settled (keeps ks) = E at HS HOk ⊢
  go_enter Tryd.func20, Tryd.ntmps20
  go_upto_region 4 with (go_at_call 39; go_must (refine HS.out.mono ?_; rintro r w1 ⟨rfl, o1, ⟨gv1, nv1, pv1, d1⟩, m1⟩))
  have ok1 := HOk.out
  have hlen := ok1.len
  have hpos := ok1.pos
  obtain ⟨gn, cn, hvv, hcn, hcn2, hgn⟩ := own_of_slice d1.n hpos
  obtain ⟨gg, cg, hvv2, hcg, hcg2, hgg⟩ := own_of_slice d1.g (by omega)
  subst hvv hvv2
  have d2 := (d1.mv (mv_drewn (I := []) w1 _) (by simp)).copyNow hlen
  have rG : RowF kc w1 (.slice (some ⟨gg, 0, none⟩) E.good.length cg) E.good := rowF_own kc_len d1.g
  have HrG : Hid (RowF kc w1.drew (.slice (some ⟨gg, 0, none⟩) E.now.length cg) E.good) := by rw [← hlen]; exact rG.below ((Below.refl _ _).drew)
  have HrN : Hid (w1.drew.ownsRow 0 76 65 (.slice (some ⟨gn, 0, none⟩) E.now.length cn) E.now.length (flat kc E.now)) := (show w1.drew.ownsRow 0 76 65 _ _ _ from d1.n)
  have d3 := d2.1.setSt false
  have d4 := d3.1.setArmed false
  have d5 := d4.1.setLeft 0
  have HLen : Hid (E.good.length = E.now.length) := hlen
  have hgb : gn ≠ b := (d1.on gn rfl).2
  have c0 := fun z : WIn (Same2 w1 b b) => (d1.blk.block z.ok.b).cell 0 _ rfl
  have c1 := fun z : WIn (Same2 w1 b b) => (d1.blk.block z.ok.b).cell 1 _ rfl
  rw [hlen] at c0
  obtain ⟨w2, hw2⟩ : ∃ w2, w2 = w1.drew.setCells gn 0 (flat kc E.good) := ⟨_, rfl⟩
  rw [← hw2] at d2 d3 d4 d5
  have HW2 : Hid (w2 = w1.drew.setCells gn 0 (flat kc E.good)) := hw2
  have HS2 : Hid (Same2 w1 b b w2) := by
    have := (grown_setCells gn (flat kc E.good) 0 w1.drew).block b d1.blk.lt (fun e => hgb (Option.some.inj e).symm)
    rw [← hw2] at this
    exact ⟨this, this⟩
  have HEnd : Hid (∃ o', DIs (((w2.setCell ⟨b, 3, none⟩ (.int .i64 0)).setCell ⟨b, 4, none⟩ (.bool false)).setCell ⟨b, 5, none⟩ (.int .i64 0)) o' j b { E with now := E.good, down := false, armed := false, left := 0 } ∧ Mv [j] w o (((w2.setCell ⟨b, 3, none⟩ (.int .i64 0)).setCell ⟨b, 4, none⟩ (.bool false)).setCell ⟨b, 5, none⟩ (.int .i64 0)) o') :=
    ⟨_, ⟨_, _, _, d5.1⟩, ((((m1.trans (mv_undrew d2.2)).trans d3.2).trans d4.2).trans d5.2)⟩
  have e3 := d2.1.c3
  have e4 := d2.1.c4
  have e5 := d2.1.c5
  have f3 := d2.1.blk.frozen 3
  have f4 := d2.1.blk.frozen 4
  have f5 := d2.1.blk.frozen 5
  rw [hlen] at hcg
  clear d1 d2 d3 d4 d5 m1 rG hw2 ok1 HOk HS hok hks hlen
  have ne : Nonempty (WIn (Same2 w1 b b)) := ⟨⟨w1, Same2.refl _ _ _⟩⟩
  refine wp_region_tree (C := fun w' => ∃ z : WIn (Same2 w1 b b), w' = z.w) (.still 0 (.still 1 (.still 2 (.still 3 (.still 4 (.still 5 (.still 6 (.still 7 (.one 8 .done))))))))) (by kernel_rfl) (by kernel_rfl) ⟨⟨w1.drew, ⟨rfl, rfl⟩⟩, rfl⟩ ?_
  generalize w1.drew = wd at *
  iterate 8 (refine tree_still rfl rfl ?_; go_big_quiet_step (fail); refine wpQuiet_nil ?_)
  refine tree_one rfl rfl ?_
  refine wp_of_list rfl ?_
  refine wpList_copy_rows ty54 kc_len rfl (.tmp 14) (.tmp 18) rfl gn E.now.length cn E.now E.good rfl HrN.out ⟨gg, 0, none⟩ cg rfl HrG.out rfl HLen.out (flat_kc_one _) ?_
  intro _ _
  rw [← HW2.out]
  refine ⟨rfl, ⟨⟨_, HS2.out⟩, rfl⟩, ?_⟩
  refine tree_done ?_
  clear c0 c1 ne HW2 HrN HrG HS2
  go_simp
  go_wp2
  go_ret
  exact ⟨rfl, HEnd.out⟩

theorem copy_nil (w : World) : Calls Tryd.prog 14 #[.pointer none] w fun r w' => r = .returned (.pointer none) ∧ w' = w := by
  go_enter Tryd.func14, Tryd.ntmps14
  go_wp2
  go_ret
  exact ⟨rfl, rfl⟩
theorem row_keep {w w' : World} {e : TypeId} {k n : Nat} {v : Value} {xs : List Value} (r : w.ownsRow 0 e k v n xs) (hb : Below w.heap.size w w') : w'.ownsRow 0 e k v n xs := ownsRow_block r (fun i hi => hb.block i (r.lt i hi).2)
theorem row_past {w w' : World} {e : TypeId} {k n c : Nat} {v : Value} {xs : List Value} (r : w.ownsRow 0 e k v n xs) (hg : w.grownBy w' (some c)) (hne : ∀ i, v.ownBlock = some i → c < i) : w'.ownsRow 0 e k v n xs := ownsRow_block r (fun i hi => hg.block i (r.lt i hi).2 (fun e => by have := hne i hi; have := Option.some.inj e; omega))
theorem copy_any {N : Nat} (h : DAt w o j b gv nv pv D) (hok : DOk D N) (hN : N ≤ 2000) (j2 : Nat) : Calls Tryd.prog 14 #[ptr b] w fun r w' => r = .returned (ptr w.heap.size) ∧ DIs w' (newTo o w j2) j2 w.heap.size D ∧ Below w.heap.size w w' := by
  have c0 := h.c0
  have c1 := h.c1
  have c2 := h.c2
  have c3 := h.c3
  have c4 := h.c4
  have c5 := h.c5
  have c6 := h.c6
  obtain ⟨ag, cg, hvv, hcg⟩ := slice_of_own h.g
  subst hvv
  obtain ⟨an, cn, hvv, hcn⟩ := slice_of_own h.n
  subst hvv
  obtain ⟨ap, cp, hvv, hcp⟩ := slice_of_own h.p
  subst hvv
  have hb := h.blk.lt
  obtain ⟨w1, hw1⟩ : ∃ w1, w1 = w.alloc (.cells (dcells (.slice ag D.good.length cg) (.slice an D.now.length cn) (.slice ap D.pend.length cp) D).toArray 57) := ⟨_, rfl⟩
  have hb1 : Below w.heap.size w w1 := by rw [hw1]; exact balloc (Below.refl _ _) _
  have B1 : Blk w1 w.heap.size 57 (dcells (.slice ag D.good.length cg) (.slice an D.now.length cn) (.slice ap D.pend.length cp) D) := by rw [hw1]; exact blk_new w _ 57
  have h1 := h.below hb1
  have hf1 : D.good.length ≤ 3000 := by have := hok.len; have := hok.few; omega
  have hf2 : D.now.length ≤ 3000 := by have := hok.few; omega
  have hf3 : D.pend.length ≤ 3000 := by have := hok.pl; omega
  have HC1 : Hid (Calls Tryd.prog 33 #[.slice ag D.good.length cg] w1 fun r w' => ∃ v', r = .returned v' ∧ w'.ownsRow 0 76 65 v' D.good.length (flat kc D.good) ∧ (∀ k, v'.ownBlock = some k → w1.heap.size ≤ k) ∧ Below w1.heap.size w1 w') := clone54 (rowF_own kc_len h1.g) hf1
  have d0 := h1.c0
  have HW1 : Hid (w1 = w.alloc (.cells #[.slice ag D.good.length cg, .slice an D.now.length cn, .slice ap D.pend.length cp, .int .i64 (stI D.down), .bool D.armed, .int .i64 D.left, .int .i64 D.writes] 57)) := hw1
  have H : Hid (DAt w o j b (.slice ag D.good.length cg) (.slice an D.now.length cn) (.slice ap D.pend.length cp) D) := h
  have s1 : w.heap.size < w1.heap.size := B1.lt
  have HB1 : Hid (Blk w1 w.heap.size 57 _) := B1
  have Hb1 : Hid (Below w.heap.size w w1) := hb1
  clear h h1 hw1 hb1 B1 hok
  go_enter Tryd.func14, Tryd.ntmps14
  go_upto_region 4 with fail
  rw [← HW1.out]
  clear c0 c1 c2 c3 c4 c5 c6 HW1
  go_upto_region 5 with (go_at_call 33; go_must (refine HC1.out.mono ?_; rintro r w2 ⟨v1, rfl, r1, k1, b2⟩; obtain ⟨a1, q1, hv1, _⟩ := slice_of_own r1; subst hv1; have HR1 : Hid (w2.ownsRow 0 76 65 _ _ _) := r1; have HK1 : Hid (∀ k, _ → w1.heap.size ≤ k) := k1; have Hb2 : Hid (Below w1.heap.size w1 w2) := b2; have e0 := (HB1.out.below b2).cell 0 _ rfl; have f0 := (HB1.out.below b2).frozen 0; clear r1 k1 b2))
  obtain ⟨w3, hw3⟩ : ∃ w3, w3 = w2.setCell ⟨w.heap.size, 0, none⟩ (.slice a1 D.good.length q1) := ⟨_, rfl⟩
  have g3 := grown_setCell w2 w.heap.size 0 (.slice a1 D.good.length q1)
  rw [← hw3] at g3 ⊢
  have B3 := (HB1.out.below Hb2.out).set 0 (.slice a1 D.good.length q1)
  rw [← hw3] at B3
  have b3 : Below w.heap.size w w3 := bgrown (bnext Hb1.out Hb2.out) (Nat.le_refl _) g3
  have r13 := row_past HR1.out g3 (fun i hi => by have := HK1.out i hi; omega)
  have h3 := H.out.below b3
  have d1 := h3.c1
  have HC2 : Hid (Calls Tryd.prog 33 #[.slice an D.now.length cn] w3 fun r w' => ∃ v', r = .returned v' ∧ w'.ownsRow 0 76 65 v' D.now.length (flat kc D.now) ∧ (∀ k, v'.ownBlock = some k → w3.heap.size ≤ k) ∧ Below w3.heap.size w3 w') := clone54 (rowF_own kc_len h3.n) hf2
  have HB3 : Hid (Blk w3 w.heap.size 57 _) := B3
  have Hb3 : Hid (Below w.heap.size w w3) := b3
  have HR13 : Hid (w3.ownsRow 0 76 65 _ _ _) := r13
  have s3 : w.heap.size < w3.heap.size := B3.lt
  clear hw3 g3 B3 b3 r13 h3 e0 f0 HR1 Hb2 HC1 d0 HB1 Hb1
  go_upto_region 6 with (go_at_call 33; go_must (refine HC2.out.mono ?_; rintro r w4 ⟨v2, rfl, r2, k2, b4⟩; obtain ⟨a2, q2, hv2, _⟩ := slice_of_own r2; subst hv2; have HR2 : Hid (w4.ownsRow 0 76 65 _ _ _) := r2; have HK2 : Hid (∀ k, _ → w3.heap.size ≤ k) := k2; have Hb4 : Hid (Below w3.heap.size w3 w4) := b4; have e0 := (HB3.out.below b4).cell 1 _ rfl; have f0 := (HB3.out.below b4).frozen 1; clear r2 k2 b4))
  obtain ⟨w5, hw5⟩ : ∃ w5, w5 = w4.setCell ⟨w.heap.size, 1, none⟩ (.slice a2 D.now.length q2) := ⟨_, rfl⟩
  have g5 := grown_setCell w4 w.heap.size 1 (.slice a2 D.now.length q2)
  rw [← hw5] at g5 ⊢
  have B5 := (HB3.out.below Hb4.out).set 1 (.slice a2 D.now.length q2)
  rw [← hw5] at B5
  have b5 : Below w.heap.size w w5 := bgrown (Hb3.out.trans (Hb4.out.mono Hb3.out.size)) (Nat.le_refl _) g5
  have r15 := row_past (row_keep HR13.out Hb4.out) g5 (fun i hi => by have := HK1.out i hi; omega)
  have r25 := row_past HR2.out g5 (fun i hi => by have := HK2.out i hi; omega)
  have hlt1 : ∀ i, (Value.slice a1 D.good.length q1).ownBlock = some i → i < w3.heap.size := fun i hi => (HR13.out.lt i hi).2
  have h5 := H.out.below b5
  have d2 := h5.c2
  have HC3 : Hid (Calls Tryd.prog 34 #[.slice ap D.pend.length cp] w5 fun r w' => ∃ v', r = .returned v' ∧ w'.ownsRow 0 79 66 v' D.pend.length (flat wc D.pend) ∧ (∀ k, v'.ownBlock = some k → w5.heap.size ≤ k) ∧ Below w5.heap.size w5 w') := clone55 (rowF_own wc_len h5.p) hf3
  have HB5 : Hid (Blk w5 w.heap.size 57 _) := B5
  have Hb5 : Hid (Below w.heap.size w w5) := b5
  have HR15 : Hid (w5.ownsRow 0 76 65 _ _ _) := r15
  have HR25 : Hid (w5.ownsRow 0 76 65 _ _ _) := r25
  have HL1 : Hid (∀ i, (Value.slice a1 D.good.length q1).ownBlock = some i → i < w3.heap.size) := hlt1
  have s5 : w.heap.size < w5.heap.size := B5.lt
  clear hw5 g5 B5 b5 r15 r25 h5 e0 f0 HR2 Hb4 HC2 d1 HB3 Hb3 HR13 hlt1
  go_upto_region 7 with (go_at_call 34; go_must (refine HC3.out.mono ?_; rintro r w6 ⟨v3, rfl, r3, k3, b6⟩; obtain ⟨a3, q3, hv3, _⟩ := slice_of_own r3; subst hv3; have HR3 : Hid (w6.ownsRow 0 79 66 _ _ _) := r3; have HK3 : Hid (∀ k, _ → w5.heap.size ≤ k) := k3; have Hb6 : Hid (Below w5.heap.size w5 w6) := b6; have e0 := (HB5.out.below b6).cell 2 _ rfl; have f0 := (HB5.out.below b6).frozen 2; clear r3 k3 b6))
  obtain ⟨w7, hw7⟩ : ∃ w7, w7 = w6.setCell ⟨w.heap.size, 2, none⟩ (.slice a3 D.pend.length q3) := ⟨_, rfl⟩
  have g7 := grown_setCell w6 w.heap.size 2 (.slice a3 D.pend.length q3)
  rw [← hw7] at g7 ⊢
  have B7 := (HB5.out.below Hb6.out).set 2 (.slice a3 D.pend.length q3)
  rw [← hw7] at B7
  have b7 : Below w.heap.size w w7 := bgrown (Hb5.out.trans (Hb6.out.mono Hb5.out.size)) (Nat.le_refl _) g7
  have r17 := row_past (row_keep HR15.out Hb6.out) g7 (fun i hi => by have := HK1.out i hi; omega)
  have r27 := row_past (row_keep HR25.out Hb6.out) g7 (fun i hi => by have := HK2.out i hi; omega)
  have r37 := row_past HR3.out g7 (fun i hi => by have := HK3.out i hi; omega)
  have HE : Hid (DIs w7 (newTo o w j2) j2 w.heap.size D ∧ Below w.heap.size w w7) := by
    refine ⟨⟨_, _, _, B7, r17, r27, r37, newTo_new (Nat.le_refl _), fun k hk => ?_, fun k hk => ?_, fun k hk => ?_, fun k hk hk2 => ?_, fun k hk hk2 => ?_, fun k hk hk2 => ?_⟩, b7⟩
    · have := HK1.out k hk
      exact ⟨newTo_new (by omega), by omega⟩
    · have := HK2.out k hk
      exact ⟨newTo_new (by omega), by omega⟩
    · have := HK3.out k hk
      exact ⟨newTo_new (by omega), by omega⟩
    · have := HL1.out k hk
      have := HK2.out k hk2
      omega
    · have := (HR15.out.lt k hk).2
      have := HK3.out k hk2
      omega
    · have := (HR25.out.lt k hk).2
      have := HK3.out k hk2
      omega
  clear hw7 g7 B7 b7 r17 r27 r37 e0 f0 HR3 Hb6 HC3 d2 HB5 Hb5 HR15 HR25 HL1
  go_wp2
  go_ret
  exact ⟨rfl, HE.out⟩
end
end Go.Proofs.YtkcighejmjgalaaDoor
