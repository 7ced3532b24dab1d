/-
  The oracle's Open and Unwrap.
-/
import Derived.Test.YtcacioogklgahaaBox
namespace Go.Proofs.Ytcacioogklgahaa
set_option linter.unusedVariables false
set_option synthInstance.maxSize 20000
open Classical
open Go.RowKit Go.Maps

set_option maxHeartbeats 2000000 in
set_option maxRecDepth 20000 in
theorem unwrap_any (w : World) (b : Nat) (ft : List Nat) (S : St) (h : Rep w b ft S) (s : Int) (v : Value) (l : List Int) (hv : Rd w v l) :
    Calls Try.prog 25 #[ptr b, .int .u64 s, v] w fun e w' => e = .returned (.tuple #[.int .u64 (S.unwrap s l).1, .int .i64 (S.unwrap s l).2]) ∧ Below w.heap.size w w' := by
  obtain ⟨T, dv, m1, m2, m3, hi, st⟩ := h
  obtain ⟨t, ok, hfind, hans⟩ := st.unwrap s l
  have hz : (T.at (headOf l)).zeros ≤ 2000 := by rw [st.at]; exact thing_zeros S _
  have HF : Hid (∀ w', Below w.heap.size w w' → Calls Try.prog 48 #[ptr b, .int .i64 5, v] w' fun e w'' => e = .returned (.tuple #[thingVal t, .bool ok]) ∧ Below w'.heap.size w' w'') := fun w' hb => by
    have := find_any w' b ft T dv m1 m2 m3 (hi.below hb) 5 v l (hv.below hb) hz
    rw [hfind] at this
    exact this
  rw [hans]
  clear hi st hv hfind hans hz
  unfold thingVal at HF
  cases ok with
  | false =>
    go_enter Try.func25, Try.ntmps25
    go_wp2_with (go_at_call 48; go_must (refine (HF.out _ (Below.refl _ _)).mono ?_; rintro e w1 ⟨rfl, hb1⟩))
    go_ret2
    exact ⟨rfl, balloc hb1 _⟩
  | true =>
    by_cases hs : t.secret = s
    · have hs' : (t.secret != s) = false := by simpa using hs
      simp only [if_pos hs, if_true]
      clear hs
      go_enter Try.func25, Try.ntmps25
      go_wp2_with (go_at_call 48; go_must (refine (HF.out _ (Below.refl _ _)).mono ?_; rintro e w1 ⟨rfl, hb1⟩))
      go_ret2
      exact ⟨rfl, balloc hb1 _⟩
    · have hs' : (t.secret != s) = true := by simpa using hs
      simp only [if_neg hs, if_true]
      clear hs
      go_enter Try.func25, Try.ntmps25
      go_wp2_with (go_at_call 48; go_must (refine (HF.out _ (Below.refl _ _)).mono ?_; rintro e w1 ⟨rfl, hb1⟩))
      go_ret2
      exact ⟨rfl, balloc hb1 _⟩

set_option maxHeartbeats 2000000 in
set_option maxRecDepth 20000 in
theorem open_any (w : World) (b : Nat) (ft : List Nat) (S : St) (h : Rep w b ft S) (k : Int) (u : Value) (bd : List Int) (hu : Rd w u bd) (v : Value) (l : List Int) (hv : Rd w v l) (hlen : ∀ k b p, S.find l = some (.seal k b p) → p.length ≤ 1000000) :
    Calls Try.prog 19 #[ptr b, .int .u64 k, u, v] w fun e w' => ∃ v', e = .returned (.tuple #[v', .int .i64 (S.open k bd l).2]) ∧ Rd w' v' (S.open k bd l).1 ∧ Below w.heap.size w w' ∧ ∀ j, v'.ownBlock = some j → w.heap.size ≤ j ∧ j < w'.heap.size := by
  obtain ⟨T, dv, m1, m2, m3, hi, st⟩ := h
  obtain ⟨t, ok, hfind, hob, hop, hans⟩ := st.open k bd l
  have hz : (T.at (headOf l)).zeros ≤ 2000 := by rw [st.at]; exact thing_zeros S _
  have hpl : t.plain.length ≤ 1000000 := by
    have hf := st.find l
    have e1 : t = (T.find 4 l).1 := by rw [hfind]
    rw [e1]
    unfold Tab.find
    rw [hf]
    split
    · cases e : S.find l with
      | none => simp [noThing]
      | some x => cases x using What.each <;> simp [thingOf]; exact hlen _ _ _ e
    · simp [noThing]
  have HF : Hid (∀ w', Below w.heap.size w w' → Calls Try.prog 48 #[ptr b, .int .i64 4, v] w' fun e w'' => e = .returned (.tuple #[thingVal t, .bool ok]) ∧ Below w'.heap.size w' w'') := fun w' hb => by
    have := find_any w' b ft T dv m1 m2 m3 (hi.below hb) 4 v l (hv.below hb) hz
    rw [hfind] at this
    exact this
  rw [hans]
  have HU : Hid (Rd w u bd) := hu
  have HNE : Hid (((strOfNums t.bound).toList == (strOfNums bd).toList) = decide (t.bound = bd)) := strEq hob hu.oct
  clear hi st hv hfind hans hz hu
  unfold thingVal at HF
  cases ok with
  | false =>
    go_enter Try.func19, Try.ntmps19
    go_wp2_with (go_at_call 48; go_must (refine (HF.out _ (Below.refl _ _)).mono ?_; rintro e w1 ⟨rfl, hb1⟩))
    go_ret2
    exact ⟨_, rfl, rd_nil _, balloc hb1 _, fun j hj => by cases hj⟩
  | true =>
    by_cases hs : t.key = k
    · have hs' : (t.key != k) = false := by simpa using hs
      simp only [if_pos hs, if_true]
      clear hs
      by_cases hbd : t.bound = bd
      · simp only [if_pos hbd]
        have hne : ((strOfNums t.bound).toList == (strOfNums bd).toList) = true := by rw [HNE.out]; simp [hbd]
        clear hbd HNE
        go_enter Try.func19, Try.ntmps19
        go_wp2_with (first
          | (go_at_call 48; go_must (refine (HF.out _ (Below.refl _ _)).mono ?_; rintro e w1 ⟨rfl, hb1⟩; have q1 := toStr (w1.alloc (.cells #[.int .i64 t.use, .int .u64 t.secret, .int .u64 t.key, .int .i64 t.zeros, .string (strOfNums t.bound), .string (strOfNums t.plain)] 72)) u bd (HU.out.below (balloc hb1 _))))
          | (refine wpList_toBytes rfl _ rfl t.plain hop (by unfold maxLen; omega) rfl ?_; intro v2 w2 hr2 hb2 ho2))
        go_ret2
        exact ⟨_, rfl, hr2, bnext (balloc hb1 _) hb2, fun j hj => by have := ho2 j hj; have := hb1.size; simp at *; omega⟩
      · simp only [if_neg hbd]
        have hne : ((strOfNums t.bound).toList == (strOfNums bd).toList) = false := by rw [HNE.out]; simp [hbd]
        clear hbd HNE
        go_enter Try.func19, Try.ntmps19
        go_wp2_with (go_at_call 48; go_must (refine (HF.out _ (Below.refl _ _)).mono ?_; rintro e w1 ⟨rfl, hb1⟩; have q1 := toStr (w1.alloc (.cells #[.int .i64 t.use, .int .u64 t.secret, .int .u64 t.key, .int .i64 t.zeros, .string (strOfNums t.bound), .string (strOfNums t.plain)] 72)) u bd (HU.out.below (balloc hb1 _))))
        go_ret2
        exact ⟨_, rfl, rd_nil _, balloc hb1 _, fun j hj => by cases hj⟩
    · have hs' : (t.key != k) = true := by simpa using hs
      simp only [if_neg hs, if_true]
      clear hs
      go_enter Try.func19, Try.ntmps19
      go_wp2_with (go_at_call 48; go_must (refine (HF.out _ (Below.refl _ _)).mono ?_; rintro e w1 ⟨rfl, hb1⟩))
      go_ret2
      exact ⟨_, rfl, rd_nil _, balloc hb1 _, fun j hj => by cases hj⟩
theorem open_nil (w : World) (k : Int) (u v : Value) : Calls Try.prog 19 #[.pointer none, .int .u64 k, u, v] w fun e w' => e = .returned (.tuple #[.slice none 0 0, .int .i64 23]) ∧ w' = w := by
  go_enter Try.func19, Try.ntmps19
  go_wp2
  go_ret2
  exact ⟨rfl, rfl⟩
end Go.Proofs.Ytcacioogklgahaa
