/-
  slices.IndexFunc and slices.ContainsFunc over any closure, at members and at wraps.
-/
import Derived.Test.YtgoghmabhdkdjaaMb
import Derived.Shelf.Abstract
namespace Go.Proofs.Ytgoghmabhdkdjaa
set_option linter.unusedVariables false
set_option linter.unusedSimpArgs false
set_option synthInstance.maxSize 20000
set_option maxHeartbeats 2000000
set_option maxRecDepth 20000
open Go.RowKit Go.Maps

def wv (q : Wq) : Value := .agg #[.int .i64 q.1.w, q.2]
def idxG {α : Type} (p : α → Bool) (l : List α) : Int := match l.findIdx? p with
  | some i => (i : Int)
  | none => -1
theorem idxG_hit {α : Type} {p : α → Bool} {l : List α} {k : Nat} {m : α} (hm : l[k]? = some m) (hp : p m = true) (hb : ∀ j x, j < k → l[j]? = some x → p x = false) : idxG p l = (k : Int) := by
  have hk := (List.getElem?_eq_some_iff.1 hm).1
  have e : l.findIdx? p = some k := by
    rw [List.findIdx?_eq_some_iff_getElem]
    refine ⟨hk, ?_, fun j hj => ?_⟩
    · have := (List.getElem?_eq_some_iff.1 hm).2
      rw [this]; exact hp
    · rw [hb j _ hj (List.getElem?_eq_getElem (by omega))]; simp
  unfold idxG
  rw [e]
theorem idxG_none {α : Type} {p : α → Bool} {l : List α} (h : ∀ (j : Nat) (x : α), l[j]? = some x → p x = false) : idxG p l = -1 := by
  have e : l.findIdx? p = none := by
    rw [List.findIdx?_eq_none_iff]
    intro x hx
    obtain ⟨j, hj⟩ := List.mem_iff_getElem?.1 hx
    exact h j x hj
  unfold idxG
  rw [e]
theorem idxG_any {α : Type} (p : α → Bool) (l : List α) : decide (0 ≤ idxG p l) = l.any p := by
  unfold idxG
  cases e : l.findIdx? p with
  | none =>
    rw [List.findIdx?_eq_none_iff] at e
    have : l.any p = false := by rw [List.any_eq_false]; intro x hx; rw [e x hx]; simp
    rw [this]; rfl
  | some i =>
    obtain ⟨h1, h2, _⟩ := List.findIdx?_eq_some_iff_getElem.1 e
    have : l.any p = true := List.any_eq_true.2 ⟨_, List.getElem_mem h1, h2⟩
    rw [this]; simp

/-- slices.IndexFunc over any closure. -/
theorem idx59 {w : World} {v : Value} {l : List Mb} (hv : RowF mc w v l) (p : Mb → Bool) (g : Nat) (cb : Array Value) (eg : ∀ args w, (callFunc g args).run Try.prog w = .ok (.enter g args) w)
    (hs : ∀ w' m, Below w.heap.size w w' → m ∈ l → Calls Try.prog g (#[mv m] ++ cb) w' fun r w'' => r = .returned (.bool (p m)) ∧ Below w'.heap.size w' w'') :
    Calls Try.prog 59 #[v, .func (.func g) #[] cb] w fun r w' => r = .returned (.int .i64 (idxG p l)) ∧ Below w.heap.size w w' := by
  obtain ⟨av, cap, rfl⟩ := hv.len
  have hcap := hv.caps
  have hc1 : l.length ≤ cap := hcap.2.1
  have hc2 : cap ≤ 9223372036854775807 := hcap.2.2
  have HV : Hid (RowF mc w (.slice av l.length cap) l) := hv
  have HS : Hid (∀ w' m, Below w.heap.size w w' → m ∈ l → Calls Try.prog g (#[mv m] ++ cb) w' fun r w'' => r = .returned (.bool (p m)) ∧ Below w'.heap.size w' w'') := hs
  obtain ⟨n, hn⟩ : ∃ n, n = l.length := ⟨_, rfl⟩
  have HN : Hid (n = l.length) := hn
  rw [← hn] at hc1 HV ⊢
  clear hv hs hcap hn
  go_enter Try.func59, Try.ntmps59
  go_wp2
  go_loopw [8] (fun i wr => ∃ k : Nat, i = .int .i64 k ∧ k ≤ n ∧ Hid (∀ j m, j < k → l[j]? = some m → p m = false) ∧ Hid (Below w.heap.size w wr)) (fun i _ => n - (intOf i).toNat)
  case atStart => exact ⟨0, rfl, by omega, (fun j m hj => by omega), (show Below _ _ _ from Below.refl _ _)⟩
  case round =>
    obtain ⟨k, rfl, hk, HI, HB⟩ := hrel
    by_cases hki : k < n
    · obtain ⟨m, hm⟩ : ∃ m, l[k]? = some m := ⟨_, List.getElem?_eq_getElem (by have := HN.out; omega)⟩
      have HM : Hid (l[k]? = some m) := hm
      obtain ⟨b, off, ea, hc⟩ := (HV.out.below HB.out).at mc_len hm
      subst ea
      have CL := HS.out wr m HB.out (List.mem_of_getElem? hm)
      have c0 := hc 0 _ rfl; have c1 := hc 1 _ rfl; have c2 := hc 2 _ rfl; have c3 := hc 3 _ rfl; have c4 := hc 4 _ rfl
      simp only [Nat.add_zero] at c0
      clear hc hm
      unfold mv at CL
      cases hp : p m
      · rw [hp] at CL
        have HP : Hid (p m = false) := hp
        clear hp
        go_wp2_with (go_at_fn g; go_must (refine CL.mono ?_; rintro r w2 ⟨rfl, hb2⟩))
        go_roundw
        case rel =>
          refine ⟨k + 1, by go_num, by omega, (fun j x hj hx => ?_), (show Below _ _ _ from bnext HB.out hb2)⟩
          by_cases hjk : j = k
          · subst hjk
            rw [HM.out] at hx
            cases hx
            exact HP.out
          · exact HI.out j x (by omega) hx
        case measure => simp [intOf]; omega
      · rw [hp] at CL
        have HP : Hid (p m = true) := hp
        clear hp
        go_wp2_with (go_at_fn g; go_must (refine CL.mono ?_; rintro r w2 ⟨rfl, hb2⟩))
        go_ret
        exact ⟨by rw [idxG_hit HM.out HP.out HI.out]; rfl, bnext HB.out hb2⟩
    · go_wp2
      go_ret
      refine ⟨?_, HB.out⟩
      rw [idxG_none (fun j x hx => HI.out j x (by have := (List.getElem?_eq_some_iff.1 hx).1; have := HN.out; omega) hx)]
      rfl

/-- slices.IndexFunc over any closure. -/
theorem idx83 {w : World} {v : Value} {l : List Wq} (hv : RowF wq w v l) (p : Wq → Bool) (g : Nat) (cb : Array Value) (eg : ∀ args w, (callFunc g args).run Try.prog w = .ok (.enter g args) w)
    (hs : ∀ w' m, Below w.heap.size w w' → m ∈ l → Calls Try.prog g (#[wv m] ++ cb) w' fun r w'' => r = .returned (.bool (p m)) ∧ Below w'.heap.size w' w'') :
    Calls Try.prog 83 #[v, .func (.func g) #[] cb] w fun r w' => r = .returned (.int .i64 (idxG p l)) ∧ Below w.heap.size w w' := by
  obtain ⟨av, cap, rfl⟩ := hv.len
  have hcap := hv.caps
  have hc1 : l.length ≤ cap := hcap.2.1
  have hc2 : cap ≤ 9223372036854775807 := hcap.2.2
  have HV : Hid (RowF wq w (.slice av l.length cap) l) := hv
  have HS : Hid (∀ w' m, Below w.heap.size w w' → m ∈ l → Calls Try.prog g (#[wv m] ++ cb) w' fun r w'' => r = .returned (.bool (p m)) ∧ Below w'.heap.size w' w'') := hs
  obtain ⟨n, hn⟩ : ∃ n, n = l.length := ⟨_, rfl⟩
  have HN : Hid (n = l.length) := hn
  rw [← hn] at hc1 HV ⊢
  clear hv hs hcap hn
  go_enter Try.func83, Try.ntmps83
  go_wp2
  go_loopw [8] (fun i wr => ∃ k : Nat, i = .int .i64 k ∧ k ≤ n ∧ Hid (∀ j m, j < k → l[j]? = some m → p m = false) ∧ Hid (Below w.heap.size w wr)) (fun i _ => n - (intOf i).toNat)
  case atStart => exact ⟨0, rfl, by omega, (fun j m hj => by omega), (show Below _ _ _ from Below.refl _ _)⟩
  case round =>
    obtain ⟨k, rfl, hk, HI, HB⟩ := hrel
    by_cases hki : k < n
    · obtain ⟨m, hm⟩ : ∃ m, l[k]? = some m := ⟨_, List.getElem?_eq_getElem (by have := HN.out; omega)⟩
      have HM : Hid (l[k]? = some m) := hm
      obtain ⟨b, off, ea, hc⟩ := (HV.out.below HB.out).at wq_len hm
      subst ea
      have CL := HS.out wr m HB.out (List.mem_of_getElem? hm)
      have c0 := hc 0 _ rfl; have c1 := hc 1 _ rfl
      simp only [Nat.add_zero] at c0
      clear hc hm
      unfold wv at CL
      cases hp : p m
      · rw [hp] at CL
        have HP : Hid (p m = false) := hp
        clear hp
        go_wp2_with (go_at_fn g; go_must (refine CL.mono ?_; rintro r w2 ⟨rfl, hb2⟩))
        go_roundw
        case rel =>
          refine ⟨k + 1, by go_num, by omega, (fun j x hj hx => ?_), (show Below _ _ _ from bnext HB.out hb2)⟩
          by_cases hjk : j = k
          · subst hjk
            rw [HM.out] at hx
            cases hx
            exact HP.out
          · exact HI.out j x (by omega) hx
        case measure => simp [intOf]; omega
      · rw [hp] at CL
        have HP : Hid (p m = true) := hp
        clear hp
        go_wp2_with (go_at_fn g; go_must (refine CL.mono ?_; rintro r w2 ⟨rfl, hb2⟩))
        go_ret
        exact ⟨by rw [idxG_hit HM.out HP.out HI.out]; rfl, bnext HB.out hb2⟩
    · go_wp2
      go_ret
      refine ⟨?_, HB.out⟩
      rw [idxG_none (fun j x hx => HI.out j x (by have := (List.getElem?_eq_some_iff.1 hx).1; have := HN.out; omega) hx)]
      rfl

theorem any75 {w : World} {v : Value} {l : List Mb} (hv : RowF mc w v l) (p : Mb → Bool) (g : Nat) (cb : Array Value) (eg : ∀ args w, (callFunc g args).run Try.prog w = .ok (.enter g args) w)
    (hs : ∀ w' m, Below w.heap.size w w' → m ∈ l → Calls Try.prog g (#[mv m] ++ cb) w' fun r w'' => r = .returned (.bool (p m)) ∧ Below w'.heap.size w' w'') :
    Calls Try.prog 75 #[v, .func (.func g) #[] cb] w fun r w' => r = .returned (.bool (l.any p)) ∧ Below w.heap.size w w' := by
  have HC : Hid (Calls Try.prog 59 #[v, .func (.func g) #[] cb] w fun r w' => r = .returned (.int .i64 (idxG p l)) ∧ Below w.heap.size w w') := idx59 hv p g cb eg hs
  obtain ⟨av, cap, rfl⟩ := hv.len
  have HA : Hid (decide (0 ≤ idxG p l) = l.any p) := idxG_any p l
  generalize idxG p l = x at *
  clear hv hs
  go_enter Try.func75, Try.ntmps75
  go_wp2_with (go_at_call 59; go_must (refine HC.out.mono ?_; rintro r w2 ⟨rfl, hb2⟩))
  go_ret
  exact ⟨by rw [← HA.out]; rfl, hb2⟩

theorem any73 {w : World} {v : Value} {l : List Wq} (hv : RowF wq w v l) (p : Wq → Bool) (g : Nat) (cb : Array Value) (eg : ∀ args w, (callFunc g args).run Try.prog w = .ok (.enter g args) w)
    (hs : ∀ w' m, Below w.heap.size w w' → m ∈ l → Calls Try.prog g (#[wv m] ++ cb) w' fun r w'' => r = .returned (.bool (p m)) ∧ Below w'.heap.size w' w'') :
    Calls Try.prog 73 #[v, .func (.func g) #[] cb] w fun r w' => r = .returned (.bool (l.any p)) ∧ Below w.heap.size w w' := by
  have HC : Hid (Calls Try.prog 83 #[v, .func (.func g) #[] cb] w fun r w' => r = .returned (.int .i64 (idxG p l)) ∧ Below w.heap.size w w') := idx83 hv p g cb eg hs
  obtain ⟨av, cap, rfl⟩ := hv.len
  have HA : Hid (decide (0 ≤ idxG p l) = l.any p) := idxG_any p l
  generalize idxG p l = x at *
  clear hv hs
  go_enter Try.func73, Try.ntmps73
  go_wp2_with (go_at_call 83; go_must (refine HC.out.mono ?_; rintro r w2 ⟨rfl, hb2⟩))
  go_ret
  exact ⟨by rw [← HA.out]; rfl, hb2⟩
end Go.Proofs.Ytgoghmabhdkdjaa
