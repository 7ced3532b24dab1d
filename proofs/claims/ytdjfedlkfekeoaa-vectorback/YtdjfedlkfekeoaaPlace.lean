/-
  A head looked for by halves in a right vector; the head of a writer.
-/
import Derived.Test.YtdjfedlkfekeoaaRight
import Derived.Deep.LoopGhost
namespace Go.Proofs.Ytdjfedlkfekeoaa
set_option linter.unusedVariables false
set_option linter.unusedSimpArgs false
open Go.RowKit

def cmpI (x y : Int) : Int := if x < y then -1 else if y < x then 1 else 0
theorem cmpI_range (x y : Int) : -1 ≤ cmpI x y ∧ cmpI x y ≤ 1 := by unfold cmpI; split <;> (try split) <;> omega
theorem cmpI_neg (x y : Int) : cmpI x y < 0 ↔ x < y := by unfold cmpI; split <;> (try split) <;> omega
theorem cmpI_zero (x y : Int) : cmpI x y = 0 ↔ x = y := by unfold cmpI; split <;> (try split) <;> omega

theorem nanI (x : Int) (w : World) : Calls Try.prog 63 #[.int .i64 x] w fun e w' => e = .returned (.bool false) ∧ w' = w := by
  go_enter Try.func63, Try.ntmps63
  go_wp2
  go_ret
  simp
theorem cmpInt (x y : Int) (w : World) : Calls Try.prog 53 #[.int .i64 x, .int .i64 y] w fun e w' => e = .returned (.int .i64 (cmpI x y)) ∧ w' = w := by
  go_enter Try.func53, Try.ntmps53
  go_wp2_with (go_at_call 63; refine (nanI _ _).mono ?_; rintro e w' ⟨rfl, rfl⟩)
  all_goals
    go_ret
    refine ⟨?_, rfl⟩
    unfold cmpI
    simp [*] <;> omega
theorem place1_any (h : H) (x : Int) (w : World) : Calls Try.prog 52 #[hv h, .int .i64 x] w fun e w' => e = .returned (.int .i64 (cmpI h.1 x)) ∧ Below w.heap.size w w' := by
  obtain ⟨a, b, c⟩ := h
  unfold hv
  go_enter Try.func52, Try.ntmps52
  go_wp2_with (go_at_call 53; refine (cmpInt _ _ _).mono ?_; rintro e w' ⟨rfl, rfl⟩)
  go_ret
  exact ⟨rfl, balloc (Below.refl _ w) _⟩

def foundB (l : List H) (x : Int) (i : Nat) : Bool := decide (i < l.length ∧ (l.getD i hz).1 = x)
theorem foundB_true {l : List H} {x : Int} {i : Nat} (h : foundB l x i = true) : i < l.length ∧ (l.getD i hz).1 = x := of_decide_eq_true h
theorem foundB_false {l : List H} {x : Int} {i : Nat} (h : foundB l x i = false) : ¬ (i < l.length ∧ (l.getD i hz).1 = x) := of_decide_eq_false h
theorem results_cell1 {fn : Func} {p : Tmp} {ty : TypeId} (h : fn.results = #[.cell p ty]) (tmps : Array Value) (P : Program) (w : World) :
    (results fn tmps).run P w = ((asAddr (tmps.getD p undef)).run P w).andThen fun a w₁ => (loadVar ty a).run P w₁ := by
  simp only [results, h]
  simp [Sem.run_bind, Result.andThen]

set_option maxHeartbeats 1000000 in
set_option maxRecDepth 20000 in
theorem search_any (v : Value) (l : List H) (x : Int) (w : World) (hv0 : RdH w v l) (hr : RightV l) :
    Calls Try.prog 51 #[v, .int .i64 x, .func (.func 52) #[] #[]] w fun e w' => ∃ i : Nat, e = .returned (.tuple #[.int .i64 i, .bool (foundB l x i)]) ∧ Placed l x i ∧ Below w.heap.size w w' := by
  obtain ⟨av, cv, rfl⟩ := hv0.len
  have HV : Hid (RdH w (.slice av l.length cv) l) := hv0
  have hcap := hv0.cap
  have h8 := hr.len8
  have HM : Hid (∀ i j, i < j → j < l.length → (l.getD i hz).1 < (l.getD j hz).1) := fun i j h1 h2 => hr.mono h1 h2
  clear hv0 hr
  go_enter Try.func51, Try.ntmps51
  go_wp2
  go_loopg [9, 10] l.length (fun kx s9 s10 wr => ∃ lo hi : Nat, s9 = .int .i64 lo ∧ s10 = .int .i64 hi ∧ lo ≤ hi ∧ hi ≤ l.length ∧ hi - lo ≤ kx ∧ Below w.heap.size w wr ∧
    Hid ((∀ t, t < lo → (l.getD t hz).1 < x) ∧ (∀ t, hi ≤ t → t < l.length → x ≤ (l.getD t hz).1)))
  case atStart => exact ⟨0, l.length, rfl, rfl, Nat.zero_le _, Nat.le_refl _, by omega, Below.refl _ _, (⟨fun t ht => absurd ht (Nat.not_lt_zero _), fun t h1 h2 => by omega⟩ : (∀ t, t < 0 → (l.getD t hz).1 < x) ∧ (∀ t, l.length ≤ t → t < l.length → x ≤ (l.getD t hz).1))⟩
  case round =>
    obtain ⟨lo, hi, rfl, rfl, hlh, hin, hg, hb, HI⟩ := hrel
    have HB : Hid (Below w.heap.size w wr) := hb
    clear hb
    by_cases hlt : lo < hi
    · obtain ⟨bv, ov, rfl, hblt, hcell⟩ := HV.out.all (by omega)
      obtain ⟨g0, g1, g2⟩ := hcell wr HB.out ((lo + hi) / 2) (by omega)
      clear hcell
      generalize hy : l.getD ((lo + hi) / 2) hz = y at g0 g1 g2
      have hP := fun w' => place1_any y x w'
      have HY : Hid (l.getD ((lo + hi) / 2) hz = y) := hy
      clear hy
      obtain ⟨a, b, c⟩ := y
      dsimp only at g0 g1 g2
      simp only [hv] at hP
      have hrg := cmpI_range a x
      have hneg := cmpI_neg a x
      generalize cmpI a x = r at hP hrg hneg
      have HNG : Hid (r < 0 ↔ a < x) := hneg
      clear hneg
      have hmid : (((lo : Int) + (hi : Int)) / 2).toNat = (lo + hi) / 2 := by omega
      by_cases hyx : r < 0
      · go_wp2_with (go_at_call 52; refine (hP _).mono ?_; rintro e w' ⟨rfl, hb1⟩)
        go_roundg (hi - ((lo + hi) / 2 + 1))
        case measure => omega
        case rel =>
          have I2 : (∀ t, t < (lo + hi) / 2 + 1 → (l.getD t hz).1 < x) ∧ (∀ t, hi ≤ t → t < l.length → x ≤ (l.getD t hz).1) := ⟨fun t ht => by
            have hax := HNG.out.1 hyx
            by_cases e : t = (lo + hi) / 2
            · rw [e, HY.out]; exact hax
            · have := HM.out t ((lo + hi) / 2) (by omega) (by omega)
              rw [HY.out] at this
              dsimp only at this
              omega, HI.out.2⟩
          exact ⟨(lo + hi) / 2 + 1, hi, by rw [show ((lo : Int) + (hi : Int)) / 2 + 1 = (((lo + hi) / 2 + 1 : Nat) : Int) by omega], rfl, by omega, hin, Nat.le_refl _, bnext HB.out hb1, I2⟩
      · go_wp2_with (go_at_call 52; refine (hP _).mono ?_; rintro e w' ⟨rfl, hb1⟩)
        go_roundg ((lo + hi) / 2 - lo)
        case measure => omega
        case rel =>
          have I2 : (∀ t, t < lo → (l.getD t hz).1 < x) ∧ (∀ t, (lo + hi) / 2 ≤ t → t < l.length → x ≤ (l.getD t hz).1) := ⟨HI.out.1, fun t ht htn => by
            have hax : ¬ a < x := fun h => by have := HNG.out.2 h; omega
            by_cases e : t = (lo + hi) / 2
            · rw [e, HY.out]; show x ≤ a; omega
            · have := HM.out ((lo + hi) / 2) t (by omega) htn
              rw [HY.out] at this
              dsimp only at this
              omega⟩
          exact ⟨lo, (lo + hi) / 2, rfl, by rw [show ((lo : Int) + (hi : Int)) / 2 = (((lo + hi) / 2 : Nat) : Int) by omega], by omega, by omega, Nat.le_refl _, bnext HB.out hb1, I2⟩
    · obtain rfl : hi = lo := by omega
      have HPL : Hid (Placed l x hi) := (⟨hin, HI.out.1, HI.out.2⟩ : Placed l x hi)
      by_cases hn : hi < l.length
      · obtain ⟨bv, ov, rfl, hblt, hcell⟩ := HV.out.all (by omega)
        obtain ⟨g0, g1, g2⟩ := hcell wr HB.out hi hn
        clear hcell
        have HD : Hid (decide (hi < l.length ∧ (l.getD hi hz).1 = x) = decide ((l.getD hi hz).1 = x)) := (by simp [hn] : decide (hi < l.length ∧ (l.getD hi hz).1 = x) = decide ((l.getD hi hz).1 = x))
        generalize hy : l.getD hi hz = y at g0 g1 g2 HD
        have hP := fun w' => place1_any y x w'
        obtain ⟨a, b, c⟩ := y
        dsimp only at g0 g1 g2
        simp only [hv] at hP
        have hrg := cmpI_range a x
        have HZ : Hid (cmpI a x = 0 ↔ a = x) := cmpI_zero a x
        generalize cmpI a x = r at hP hrg HZ
        by_cases h0 : r = 0
        · have HE : Hid (foundB l x hi = true) := by show foundB l x hi = true; unfold foundB; rw [hy]; exact HD.out.trans (decide_eq_true (HZ.out.1 h0))
          subst h0
          go_wp2_with (go_at_call 52; refine (hP _).mono ?_; rintro e w' ⟨rfl, hb1⟩)
          go_ret2
          exact ⟨hi, by rw [HE.out]; rfl, HPL.out, bnext HB.out hb1⟩
        · have HE : Hid (foundB l x hi = false) := by show foundB l x hi = false; unfold foundB; rw [hy]; exact HD.out.trans (decide_eq_false (fun h => h0 (HZ.out.2 h)))
          have h0' : (r == 0) = false := by simpa using h0
          go_wp2_with (go_at_call 52; refine (hP _).mono ?_; rintro e w' ⟨rfl, hb1⟩)
          go_ret2
          exact ⟨hi, by rw [HE.out]; rfl, HPL.out, bnext HB.out hb1⟩
      · go_wp2
        go_ret2
        exact ⟨hi, by rw [show foundB l x hi = false from decide_eq_false (fun h => hn h.1)]; rfl, HPL.out, HB.out⟩

theorem place_any (v : Value) (l : List H) (x : Int) (w : World) (hv0 : RdH w v l) (hr : RightV l) :
    Calls Try.prog 33 #[v, .int .i64 x] w fun e w' => ∃ i : Nat, e = .returned (.tuple #[.int .i64 i, .bool (foundB l x i)]) ∧ Placed l x i ∧ Below w.heap.size w w' := by
  have hS := fun w' h => search_any v l x w' h hr
  obtain ⟨av, cv, rfl⟩ := hv0.len
  have HV : Hid (RdH w (.slice av l.length cv) l) := hv0
  clear hv0 hr
  go_enter Try.func33, Try.ntmps33
  go_wp2_with (go_at_call 51; refine (hS _ HV.out).mono ?_; rintro e w1 ⟨i, rfl, hp, hb⟩)
  go_ret2
  exact ⟨i, rfl, hp, hb⟩

set_option maxHeartbeats 400000 in
theorem head_any (v : Value) (l : List H) (x : Int) (w : World) (hv0 : RdH w v l) (hr : RightV l) :
    Calls Try.prog 36 #[v, .int .i64 x] w fun e w' => e = .returned (hv (getV l x)) ∧ Below w.heap.size w w' := by
  have hS := fun w' h => place_any v l x w' h hr
  obtain ⟨av, cv, rfl⟩ := hv0.len
  have HV : Hid (RdH w (.slice av l.length cv) l) := hv0
  have HR : Hid (RightV l) := hr
  have hcap := hv0.cap
  have h8 := hr.len8
  clear hv0 hr
  go_enter Try.func36, Try.ntmps36
  go_upto_region 2 with (go_at_call 33; refine (hS _ (HV.out.below (balloc (Below.refl _ _) _))).mono ?_; rintro e w1 ⟨i, rfl, hp, hb⟩)
  have X := (blk_new w [.int .i64 0, .int .i64 0, .int .u64 0] 25).below hb
  have HB : Hid (Below w.heap.size w w1) := bnext (balloc (Below.refl _ _) _) hb
  have HP : Hid (Placed l x i) := hp
  have x0 := X.cell 0 _ rfl
  have x1 := X.cell 1 _ rfl
  have x2 := X.cell 2 _ rfl
  have f0 := X.frozen 0
  have f1 := X.frozen 1
  have f2 := X.frozen 2
  have HX : Hid _ := X
  clear hb hp X hS
  cases hfb : foundB l x i with
  | true =>
    obtain ⟨hi, hf2⟩ := foundB_true hfb
    have HG : Hid (getV l x = l.getD i hz) := HP.out.found hi hf2
    clear hf2
    obtain ⟨bv, ov, rfl, hblt, hcell⟩ := HV.out.all (by omega)
    obtain ⟨g0, g1, g2⟩ := hcell w1 HB.out i hi
    generalize l.getD i hz = y at g0 g1 g2 HG
    obtain ⟨a, b, c⟩ := y
    dsimp only at g0 g1 g2
    clear hcell
    go_wp2
    refine bodyPost_ret (v := hv (a, b, c)) ?_ rfl ⟨by rw [HG.out], ?_⟩
    · rw [results_cell1 rfl]
      unfold hv
      go_simp
    · exact ((HB.out.setCell (Nat.le_refl _) _).setCell (Nat.le_refl _) _).setCell (Nat.le_refl _) _
  | false =>
    have HG : Hid (getV l x = (x, 0, 0)) := (HP.out.lost HR.out (foundB_false hfb)).1
    go_wp2
    refine bodyPost_ret (v := hv (x, 0, 0)) ?_ rfl ⟨by rw [HG.out], ?_⟩
    · rw [results_cell1 rfl]
      unfold hv
      go_simp
    · exact ((HB.out.setCell (Nat.le_refl _) _).setCell (Nat.le_refl _) _).setCell (Nat.le_refl _) _
end Go.Proofs.Ytdjfedlkfekeoaa
