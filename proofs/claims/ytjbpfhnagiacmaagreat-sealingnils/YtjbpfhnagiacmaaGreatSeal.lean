/-
  The oracle's Seal.
-/
import Derived.Test.YtjbpfhnagiacmaaGreatRep
import Derived.Test.YtjbpfhnagiacmaaGreatRefBox
import Derived.Test.YtjbpfhnagiacmaaGreatEpM
import Derived.Deep.DeepCutAuto
namespace Go.Proofs.YtjbpfhnagiacmaaGreat
set_option linter.unusedVariables false
set_option synthInstance.maxSize 20000
open Classical
open Go.RowKit Go.Maps
set_option maxHeartbeats 4000000 in
set_option maxRecDepth 20000 in
theorem seal_any (w : World) (b : Nat) (ft : List Nat) (S : St) (h : Rep w b ft S) (hN : S.rows.length + 1 < 1000000000) (k : Int) (hk : U64 k) (u : Value) (bd : List Int) (hu : Rd w u bd) (v : Value) (pl : List Int) (hv : Rd w v pl) (hlen : pl.length ≤ 1000000) :
    Calls Tryz.prog 35 #[ptr b, .int .u64 k, u, v] w fun e w' => ∃ v', e = .returned (.tuple #[v', .int .i64 (S.seal k bd pl).1.2]) ∧ LeftB w b ft (S.seal k bd pl).2 w' v' (S.seal k bd pl).1.1 := by
  have HR : Hid (Rep w b ft S) := h
  obtain ⟨T, dv, m1, m2, m3, hi, st⟩ := h
  have hO := thing_oct st.good k
  rw [← st.at] at hO
  have HK : Hid (Calls Tryz.prog 76 #[ptr b, .int .u64 k] w fun e w'' => e = .returned (.bool (decide (S.at k = some .key))) ∧ w'' = w) := by
    have := isKey_any w b ft T dv m1 m2 m3 hi k hk hO
    have e : decide (T.at k = ⟨1, 0, 0, 0, [], []⟩) = decide (S.at k = some .key) := decide_eq_decide.2 (by rw [st.at]; exact at_key S k)
    rw [e] at this
    exact this
  have hroom := hi.room
  have hfU : U64 S.fresh := (fresh_ok st.good (by omega)).2.2.1
  have HU : Hid (Rd w u bd) := hu
  have HV : Hid (Rd w v pl) := hv
  have hob := hu.oct
  have hop := hv.oct
  obtain ⟨av, cv, rfl⟩ := hv.len
  have HZ : Hid (sizeI (cls pl.length) = ((zerosOf pl : Nat) : Int)) := by
    unfold zerosOf
    have := (sizeI_le (cls pl.length)).1
    exact (Int.toNat_of_nonneg this).symm
  have hz2 : zerosOf pl ≤ 2000 := by
    have := (sizeI_le (cls pl.length)).2
    unfold zerosOf
    omega
  have HC : Hid (∀ w, Calls Tryz.prog 19 #[.int .i64 (pl.length : Int)] w fun e w' => e = .returned (.int .i64 (cls pl.length)) ∧ Below w.heap.size w w') := fun w => by
    have := class_any (pl.length : Int) w (by omega)
    rw [clsI_nat] at this
    exact this
  have HSZ : Hid (∀ w, Calls Tryz.prog 44 #[.int .i64 (cls pl.length)] w fun e w' => e = .returned (.int .i64 ((zerosOf pl : Nat) : Int)) ∧ w' = w) := fun w => by
    have := size_any (cls pl.length) w
    rw [HZ.out] at this
    exact this
  have hcl := cls_lt pl.length
  clear hi st hO hu hv
  unfold St.seal
  by_cases hkey : S.at k = some .key
  · rw [if_pos hkey]
    have hok : decide (S.at k = some .key) = true := decide_eq_true hkey
    rw [hok] at HK
    clear hkey hok
    by_cases hc : cls pl.length = -1
    · rw [if_pos hc]
      rw [hc] at HC
      clear hcl hc HSZ HZ
      go_enter Tryz.func35, Tryz.ntmps35
      go_wp2_with (first
        | (go_at_call 76; go_must (refine HK.out.mono ?_; rintro e w1 ⟨rfl, rfl⟩))
        | (go_at_call 19; go_must (refine (HC.out _).mono ?_; rintro e w2 ⟨rfl, hb2⟩)))
      go_ret2
      exact ⟨_, rfl, LeftB.nil HR.out hb2⟩
    · rw [if_neg hc]
      have hc0 : 0 ≤ cls pl.length := by omega
      generalize cls pl.length = c at HC HSZ hc0
      clear hcl hc HZ
      go_enter Tryz.func35, Tryz.ntmps35
      go_upto_region 8 with (first
        | (go_at_call 76; go_must (refine HK.out.mono ?_; rintro e w1 ⟨rfl, rfl⟩))
        | (go_at_call 19; go_must (refine (HC.out _).mono ?_; rintro e w2 ⟨rfl, hb2⟩)))
      have q1 := toStr w2.drew u bd (HU.out.below hb2).drew
      have q2 := toStr w2.drew _ pl (HV.out.below hb2).drew
      have q3 := toStr (w2.alloc (.cells #[.int .i64 0, .int .u64 0, .int .u64 0, .int .i64 0, .string ⟨#[]⟩, .string ⟨#[]⟩] 109)).drew u bd ((HU.out.below hb2).below (balloc (Below.refl _ _) _)).drew
      have q4 := toStr (w2.alloc (.cells #[.int .i64 0, .int .u64 0, .int .u64 0, .int .i64 0, .string ⟨#[]⟩, .string ⟨#[]⟩] 109)).drew _ pl ((HV.out.below hb2).below (balloc (Below.refl _ _) _)).drew
      have HB2 : Hid (Below w1.heap.size w1 w2) := hb2
      clear hb2
      go_cut [11] (fun p wx => p = .pointer (some ⟨w2.heap.size, 0, none⟩) ∧ wx = (w2.alloc (.cells #[.int .i64 4, .int .u64 0, .int .u64 k, .int .i64 (zerosOf pl : Nat), .string (strOfNums bd), .string (strOfNums pl)] 109)).drew)
      case first =>
        go_region_with (go_at_call 44; go_must (refine (HSZ.out _).mono ?_; rintro e w3 ⟨rfl, rfl⟩))
        all_goals (go_wp2_with fail; go_meet; exact ⟨rfl, rfl⟩)
      case rest =>
        obtain ⟨rfl, rfl⟩ := hcut
        have HR2 : Hid (Rep w2 b ft S) := HR.out.below HB2.out
        clear q1 q2 q3 q4
        go_wp2_with fail
        go_region_with (first
          | (go_at_call 51; go_must (refine (put_row _ b ft S ((HR2.out.below (balloc (Below.refl _ w2) _)).turn (X := []) (Turn.refl [] _).drew.drew (fun _ _ h => by cases h)) hN (.seal k bd pl) ⟨hk, hob, hop⟩ (by simp) (by simp) _ rfl).mono ?_; rintro e w4 ⟨rfl, hl4⟩; have HL4 : Hid (Left w2 b ft (S.put (.seal k bd pl)) w4) := hl4.after (balloc (Below.refl _ w2) _).drew.drew; have X := (show Blk (w2.alloc (.cells #[.int .i64 4, .int .u64 0, .int .u64 k, .int .i64 (zerosOf pl : Nat), .string (strOfNums bd), .string (strOfNums pl)] 109)) w2.heap.size 109 [.int .i64 4, .int .u64 0, .int .u64 k, .int .i64 (zerosOf pl : Nat), .string (strOfNums bd), .string (strOfNums pl)] from heap_alloc_new w2 _).block (hl4.2.block w2.heap.size (by simp) (fun e => by have := HR2.out.room _ e; omega)); have j3 := X.cell 3 _ rfl; clear X hl4))
          | (go_at_call 77; go_must (refine (form_any S.fresh (zerosOf pl) _ hfU hz2).mono ?_; rintro e w5 ⟨v5, rfl, hown, hb5⟩)))
        all_goals go_wp2
        all_goals go_ret2
        all_goals exact ⟨_, rfl, LeftB.mk' (HL4.out.after HB2.out) hown hb5⟩
  · rw [if_neg hkey]
    have hok : decide (S.at k = some .key) = false := decide_eq_false hkey
    rw [hok] at HK
    clear hkey hok
    go_enter Tryz.func35, Tryz.ntmps35
    go_wp2_with (go_at_call 76; go_must (refine HK.out.mono ?_; rintro e w1 ⟨rfl, rfl⟩))
    go_ret2
    exact ⟨_, rfl, LeftB.nil HR.out (Below.refl _ _)⟩
end Go.Proofs.YtjbpfhnagiacmaaGreat
