/-
  Seal and Open of the program: what stands at a place.
-/
import Derived.Test.YtjbpfhnagiacmaaGreatSea
namespace Go.Proofs.YtjbpfhnagiacmaaGreat
set_option linter.unusedVariables false
set_option linter.unusedSimpArgs false
set_option synthInstance.maxSize 20000
set_option maxHeartbeats 2000000
set_option maxRecDepth 20000
open Go.RowKit Go.Maps
theorem under33_35 {Post : World → Value → Int → World → Prop} {w : World} {x y n K : Int} {rp op v : Value} (hx : I64 x) (hy : I64 y) (hn : I64 n)
    (hK : ∀ w', Below w.heap.size w w' → Calls Tryz.prog 34 #[rp, .int .i64 n] w' fun e w'' => e = .returned (.tuple #[.int .u64 K, .int .i64 0]) ∧ w'' = w')
    (hT : ∀ w' u, Below w.heap.size w w' → Rd w' u (boundL x y n) → Calls Tryz.prog 35 #[op, .int .u64 K, u, v] w' fun e w'' => ∃ v' k, e = .returned (.tuple #[v', .int .i64 k]) ∧ Post w' v' k w'') :
    Calls Tryz.prog 33 #[.agg #[.int .i64 x, .int .i64 y, .int .i64 n], .func (.func 34) #[rp] #[], .func (.func 35) #[op] #[], v] w fun e w'' => ∃ v' k w', e = .returned (.tuple #[v', .int .i64 k]) ∧ Below w.heap.size w w' ∧ Post w' v' k w'' := by
  have HK : Hid (∀ w', Below w.heap.size w w' → Calls Tryz.prog 34 #[rp, .int .i64 n] w' fun e w'' => e = .returned (.tuple #[.int .u64 K, .int .i64 0]) ∧ w'' = w') := hK
  have HT : Hid (∀ w' u, Below w.heap.size w w' → Rd w' u (boundL x y n) → Calls Tryz.prog 35 #[op, .int .u64 K, u, v] w' fun e w'' => ∃ v' k, e = .returned (.tuple #[v', .int .i64 k]) ∧ Post w' v' k w'') := hT
  have HB : Hid (∀ w', Calls Tryz.prog 75 #[.int .i64 x, .int .i64 y, .int .i64 n] w' fun e w'' => ∃ v, e = .returned v ∧ Own (w'.heap.size + 1) 5 w'' v (boundL x y n) ∧ Below w'.heap.size w' w'') := fun w' => boundE_any w' x y n hx hy hn
  clear hx hy hn hK hT
  obtain ⟨w1, hw1⟩ : ∃ w1, w1 = w.alloc (.cells #[.int .i64 x, .int .i64 y, .int .i64 n] 90) := ⟨_, rfl⟩
  have HX : Hid (∀ w', Below w1.heap.size w1 w' → Blk w' w.heap.size 90 [.int .i64 x, .int .i64 y, .int .i64 n]) := fun w' hb => by
    refine Blk.below ?_ hb
    rw [hw1]
    exact blk_new w _ 90
  have HB1 : Hid (Below w.heap.size w w1) := by show Below _ _ _; rw [hw1]; exact balloc (Below.refl _ _) _
  have X1 := HX.out w1 (Below.refl _ _)
  have x0 := X1.cell 0 _ rfl; have x1 := X1.cell 1 _ rfl; have x2 := X1.cell 2 _ rfl
  go_enter Tryz.func33, Tryz.ntmps33
  go_upto_region 1 with fail
  rw [← hw1]
  obtain ⟨B, hB⟩ : ∃ B, B = w.heap.size := ⟨_, rfl⟩
  rw [← hB] at x0 x1 x2 HX ⊢
  clear hw1 X1 hB
  go_upto_region 4 with (go_at_call 34; go_must (refine (HK.out w1 HB1.out).mono ?_; rintro r w2 ⟨rfl, hw2⟩; replace hw2 := hw2.symm; subst hw2))
  go_wp2_with (first
    | (go_at_call 75; go_must (refine (HB.out w1).mono ?_; rintro r w3 ⟨u3, rfl, ho3, hb3⟩; have X3 := HX.out w3 hb3; have y0 := X3.cell 0 _ rfl; have y1 := X3.cell 1 _ rfl; have y2 := X3.cell 2 _ rfl))
    | (go_at_call 35; go_must (refine (HT.out w3 u3 (bnext HB1.out hb3) ho3.rd).mono ?_; rintro r w4 ⟨v4, k4, rfl, hp4⟩)))
  go_ret2
  exact ⟨v4, k4, w3, rfl, bnext HB1.out hb3, hp4⟩
theorem under33_35no {w : World} {x y n K kk : Int} {rp op v : Value} (hk0 : kk ≠ 0)
    (hK : ∀ w', Below w.heap.size w w' → Calls Tryz.prog 34 #[rp, .int .i64 n] w' fun e w'' => e = .returned (.tuple #[.int .u64 K, .int .i64 kk]) ∧ w'' = w') :
    Calls Tryz.prog 33 #[.agg #[.int .i64 x, .int .i64 y, .int .i64 n], .func (.func 34) #[rp] #[], .func (.func 35) #[op] #[], v] w fun e w'' => e = .returned (.tuple #[.slice none 0 0, .int .i64 kk]) ∧ Below w.heap.size w w'' := by
  have HK : Hid (∀ w', Below w.heap.size w w' → Calls Tryz.prog 34 #[rp, .int .i64 n] w' fun e w'' => e = .returned (.tuple #[.int .u64 K, .int .i64 kk]) ∧ w'' = w') := hK
  clear hK
  have hk : (kk != 0) = true := by simp [hk0]
  go_enter Tryz.func33, Tryz.ntmps33
  go_wp2_with (go_at_call 34; go_must (refine (HK.out _ (balloc (Below.refl _ _) _)).mono ?_; rintro r w2 ⟨rfl, hw2⟩; replace hw2 := hw2.symm; subst hw2))
  go_ret2
  exact ⟨rfl, balloc (Below.refl _ _) _⟩
theorem under33_40 {Post : World → Value → Int → World → Prop} {w : World} {x y n K : Int} {rp op v : Value} (hx : I64 x) (hy : I64 y) (hn : I64 n)
    (hK : ∀ w', Below w.heap.size w w' → Calls Tryz.prog 34 #[rp, .int .i64 n] w' fun e w'' => e = .returned (.tuple #[.int .u64 K, .int .i64 0]) ∧ w'' = w')
    (hT : ∀ w' u, Below w.heap.size w w' → Rd w' u (boundL x y n) → Calls Tryz.prog 40 #[op, .int .u64 K, u, v] w' fun e w'' => ∃ v' k, e = .returned (.tuple #[v', .int .i64 k]) ∧ Post w' v' k w'') :
    Calls Tryz.prog 33 #[.agg #[.int .i64 x, .int .i64 y, .int .i64 n], .func (.func 34) #[rp] #[], .func (.func 40) #[op] #[], v] w fun e w'' => ∃ v' k w', e = .returned (.tuple #[v', .int .i64 k]) ∧ Below w.heap.size w w' ∧ Post w' v' k w'' := by
  have HK : Hid (∀ w', Below w.heap.size w w' → Calls Tryz.prog 34 #[rp, .int .i64 n] w' fun e w'' => e = .returned (.tuple #[.int .u64 K, .int .i64 0]) ∧ w'' = w') := hK
  have HT : Hid (∀ w' u, Below w.heap.size w w' → Rd w' u (boundL x y n) → Calls Tryz.prog 40 #[op, .int .u64 K, u, v] w' fun e w'' => ∃ v' k, e = .returned (.tuple #[v', .int .i64 k]) ∧ Post w' v' k w'') := hT
  have HB : Hid (∀ w', Calls Tryz.prog 75 #[.int .i64 x, .int .i64 y, .int .i64 n] w' fun e w'' => ∃ v, e = .returned v ∧ Own (w'.heap.size + 1) 5 w'' v (boundL x y n) ∧ Below w'.heap.size w' w'') := fun w' => boundE_any w' x y n hx hy hn
  clear hx hy hn hK hT
  obtain ⟨w1, hw1⟩ : ∃ w1, w1 = w.alloc (.cells #[.int .i64 x, .int .i64 y, .int .i64 n] 90) := ⟨_, rfl⟩
  have HX : Hid (∀ w', Below w1.heap.size w1 w' → Blk w' w.heap.size 90 [.int .i64 x, .int .i64 y, .int .i64 n]) := fun w' hb => by
    refine Blk.below ?_ hb
    rw [hw1]
    exact blk_new w _ 90
  have HB1 : Hid (Below w.heap.size w w1) := by show Below _ _ _; rw [hw1]; exact balloc (Below.refl _ _) _
  have X1 := HX.out w1 (Below.refl _ _)
  have x0 := X1.cell 0 _ rfl; have x1 := X1.cell 1 _ rfl; have x2 := X1.cell 2 _ rfl
  go_enter Tryz.func33, Tryz.ntmps33
  go_upto_region 1 with fail
  rw [← hw1]
  obtain ⟨B, hB⟩ : ∃ B, B = w.heap.size := ⟨_, rfl⟩
  rw [← hB] at x0 x1 x2 HX ⊢
  clear hw1 X1 hB
  go_upto_region 4 with (go_at_call 34; go_must (refine (HK.out w1 HB1.out).mono ?_; rintro r w2 ⟨rfl, hw2⟩; replace hw2 := hw2.symm; subst hw2))
  go_wp2_with (first
    | (go_at_call 75; go_must (refine (HB.out w1).mono ?_; rintro r w3 ⟨u3, rfl, ho3, hb3⟩; have X3 := HX.out w3 hb3; have y0 := X3.cell 0 _ rfl; have y1 := X3.cell 1 _ rfl; have y2 := X3.cell 2 _ rfl))
    | (go_at_call 40; go_must (refine (HT.out w3 u3 (bnext HB1.out hb3) ho3.rd).mono ?_; rintro r w4 ⟨v4, k4, rfl, hp4⟩)))
  go_ret2
  exact ⟨v4, k4, w3, rfl, bnext HB1.out hb3, hp4⟩
theorem under33_40no {w : World} {x y n K kk : Int} {rp op v : Value} (hk0 : kk ≠ 0)
    (hK : ∀ w', Below w.heap.size w w' → Calls Tryz.prog 34 #[rp, .int .i64 n] w' fun e w'' => e = .returned (.tuple #[.int .u64 K, .int .i64 kk]) ∧ w'' = w') :
    Calls Tryz.prog 33 #[.agg #[.int .i64 x, .int .i64 y, .int .i64 n], .func (.func 34) #[rp] #[], .func (.func 40) #[op] #[], v] w fun e w'' => e = .returned (.tuple #[.slice none 0 0, .int .i64 kk]) ∧ Below w.heap.size w w'' := by
  have HK : Hid (∀ w', Below w.heap.size w w' → Calls Tryz.prog 34 #[rp, .int .i64 n] w' fun e w'' => e = .returned (.tuple #[.int .u64 K, .int .i64 kk]) ∧ w'' = w') := hK
  clear hK
  have hk : (kk != 0) = true := by simp [hk0]
  go_enter Tryz.func33, Tryz.ntmps33
  go_wp2_with (go_at_call 34; go_must (refine (HK.out _ (balloc (Below.refl _ _) _)).mono ?_; rintro r w2 ⟨rfl, hw2⟩; replace hw2 := hw2.symm; subst hw2))
  go_ret2
  exact ⟨rfl, balloc (Below.refl _ _) _⟩
theorem seal9_bad (w : World) {x y n : Int} (hp : placeB x y n = false) (op rp v : Value) : Calls Tryz.prog 9 #[op, rp, .int .i64 x, .int .i64 y, .int .i64 n, v] w fun e w' => e = .returned (.tuple #[.slice none 0 0, .int .i64 1]) ∧ Below w.heap.size w w' := by
  have HP : Hid (∀ w', Calls Tryz.prog 32 #[.agg #[.int .i64 x, .int .i64 y, .int .i64 n]] w' fun e w'' => e = .returned (.bool false) ∧ Below w'.heap.size w' w'') := fun w' => by
    have := sealable32 w' x y n
    rwa [hp] at this
  clear hp
  go_enter Tryz.func9, Tryz.ntmps9
  go_wp2_with (go_at_call 32; go_must (refine (HP.out _).mono ?_; rintro r w2 ⟨rfl, hb2⟩))
  go_ret2
  exact ⟨rfl, bnext (balloc (Below.refl _ _) _) hb2⟩
theorem seal9_no {w : World} {x y n K kk : Int} {rp op v : Value} (hp : placeB x y n = true) (hk0 : kk ≠ 0)
    (hK : ∀ w', Below w.heap.size w w' → Calls Tryz.prog 34 #[rp, .int .i64 n] w' fun e w'' => e = .returned (.tuple #[.int .u64 K, .int .i64 kk]) ∧ w'' = w') :
    Calls Tryz.prog 9 #[op, rp, .int .i64 x, .int .i64 y, .int .i64 n, v] w fun e w' => e = .returned (.tuple #[.slice none 0 0, .int .i64 kk]) ∧ Below w.heap.size w w' := by
  have HP : Hid (∀ w', Calls Tryz.prog 32 #[.agg #[.int .i64 x, .int .i64 y, .int .i64 n]] w' fun e w'' => e = .returned (.bool true) ∧ Below w'.heap.size w' w'') := fun w' => by
    have := sealable32 w' x y n
    rwa [hp] at this
  have HU : Hid (∀ w', Below w.heap.size w w' → Calls Tryz.prog 33 #[.agg #[.int .i64 x, .int .i64 y, .int .i64 n], .func (.func 34) #[rp] #[], .func (.func 35) #[op] #[], v] w' fun e w'' => e = .returned (.tuple #[.slice none 0 0, .int .i64 kk]) ∧ Below w'.heap.size w' w'') := fun w' hb => under33_35no hk0 (fun w'' hb' => hK w'' (bnext hb hb'))
  have hmf : ∀ (fn : Fn) (first cap : Array Value) (w : World), (Instr.makeFunc fn first cap).run Tryz.prog w = .ok (.func fn first cap) w := fun _ _ _ _ => rfl
  obtain ⟨w1, hw1⟩ : ∃ w1, w1 = w.alloc (.cells #[.int .i64 x, .int .i64 y, .int .i64 n] 90) := ⟨_, rfl⟩
  have HX : Hid (∀ w', Below w1.heap.size w1 w' → Blk w' w.heap.size 90 [.int .i64 x, .int .i64 y, .int .i64 n]) := fun w' hb => by
    refine Blk.below ?_ hb
    rw [hw1]
    exact blk_new w _ 90
  have HB1 : Hid (Below w.heap.size w w1) := by show Below _ _ _; rw [hw1]; exact balloc (Below.refl _ _) _
  clear hp hk0 hK
  go_enter Tryz.func9, Tryz.ntmps9
  go_upto_region 2 with fail
  rw [← hw1]
  have X1 := HX.out w1 (Below.refl _ _)
  have x0 := X1.cell 0 _ rfl; have x1 := X1.cell 1 _ rfl; have x2 := X1.cell 2 _ rfl
  obtain ⟨B, hB⟩ : ∃ B, B = w.heap.size := ⟨_, rfl⟩
  rw [← hB] at x0 x1 x2 HX ⊢
  clear hw1 X1 hB
  go_wp2_with (first
    | (go_at_call 32; go_must (refine (HP.out w1).mono ?_; rintro r w2 ⟨rfl, hb2⟩; have X2 := HX.out w2 hb2; have y0 := X2.cell 0 _ rfl; have y1 := X2.cell 1 _ rfl; have y2 := X2.cell 2 _ rfl))
    | (go_at_call 33; go_must (refine (HU.out w2 (bnext HB1.out hb2)).mono ?_; rintro r w3 ⟨rfl, hb3⟩)))
  go_ret2
  exact ⟨rfl, bnext (bnext HB1.out hb2) hb3⟩
theorem seal9_ok {Post : World → Value → Int → World → Prop} {w : World} {x y n K : Int} {rp op v : Value} (hp : placeB x y n = true)
    (hK : ∀ w', Below w.heap.size w w' → Calls Tryz.prog 34 #[rp, .int .i64 n] w' fun e w'' => e = .returned (.tuple #[.int .u64 K, .int .i64 0]) ∧ w'' = w')
    (hT : ∀ w' u, Below w.heap.size w w' → Rd w' u (boundL x y n) → Calls Tryz.prog 35 #[op, .int .u64 K, u, v] w' fun e w'' => ∃ v' k, e = .returned (.tuple #[v', .int .i64 k]) ∧ Post w' v' k w'') :
    Calls Tryz.prog 9 #[op, rp, .int .i64 x, .int .i64 y, .int .i64 n, v] w fun e w'' => ∃ v' k w', e = .returned (.tuple #[v', .int .i64 k]) ∧ Below w.heap.size w w' ∧ Post w' v' k w'' := by
  have HP : Hid (∀ w', Calls Tryz.prog 32 #[.agg #[.int .i64 x, .int .i64 y, .int .i64 n]] w' fun e w'' => e = .returned (.bool true) ∧ Below w'.heap.size w' w'') := fun w' => by
    have := sealable32 w' x y n
    rwa [hp] at this
  have hpp := hp
  unfold placeB at hpp
  rw [decide_eq_true_iff] at hpp
  have HU : Hid (∀ w', Below w.heap.size w w' → Calls Tryz.prog 33 #[.agg #[.int .i64 x, .int .i64 y, .int .i64 n], .func (.func 34) #[rp] #[], .func (.func 35) #[op] #[], v] w' fun e w'' => ∃ v' k w3, e = .returned (.tuple #[v', .int .i64 k]) ∧ Below w'.heap.size w' w3 ∧ Post w3 v' k w'') := fun w' hb =>
    under33_35 (Post := Post) (by unfold I64; omega) (by unfold I64; omega) (by unfold I64; omega) (fun w'' hb' => hK w'' (bnext hb hb')) (fun w'' u hb' hu => hT w'' u (bnext hb hb') hu)
  have hmf : ∀ (fn : Fn) (first cap : Array Value) (w : World), (Instr.makeFunc fn first cap).run Tryz.prog w = .ok (.func fn first cap) w := fun _ _ _ _ => rfl
  obtain ⟨w1, hw1⟩ : ∃ w1, w1 = w.alloc (.cells #[.int .i64 x, .int .i64 y, .int .i64 n] 90) := ⟨_, rfl⟩
  have HX : Hid (∀ w', Below w1.heap.size w1 w' → Blk w' w.heap.size 90 [.int .i64 x, .int .i64 y, .int .i64 n]) := fun w' hb => by
    refine Blk.below ?_ hb
    rw [hw1]
    exact blk_new w _ 90
  have HB1 : Hid (Below w.heap.size w w1) := by show Below _ _ _; rw [hw1]; exact balloc (Below.refl _ _) _
  clear hp hpp hK hT
  go_enter Tryz.func9, Tryz.ntmps9
  go_upto_region 2 with fail
  rw [← hw1]
  have X1 := HX.out w1 (Below.refl _ _)
  have x0 := X1.cell 0 _ rfl; have x1 := X1.cell 1 _ rfl; have x2 := X1.cell 2 _ rfl
  obtain ⟨B, hB⟩ : ∃ B, B = w.heap.size := ⟨_, rfl⟩
  rw [← hB] at x0 x1 x2 HX ⊢
  clear hw1 X1 hB
  go_wp2_with (first
    | (go_at_call 32; go_must (refine (HP.out w1).mono ?_; rintro r w2 ⟨rfl, hb2⟩; have X2 := HX.out w2 hb2; have y0 := X2.cell 0 _ rfl; have y1 := X2.cell 1 _ rfl; have y2 := X2.cell 2 _ rfl))
    | (go_at_call 33; go_must (refine (HU.out w2 (bnext HB1.out hb2)).mono ?_; rintro r w4 ⟨v4, k4, w3, rfl, hb3, hp4⟩)))
  go_ret2
  exact ⟨v4, k4, w3, rfl, bnext (bnext HB1.out hb2) hb3, hp4⟩
end Go.Proofs.YtjbpfhnagiacmaaGreat
