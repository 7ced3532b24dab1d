/-
  bytes.Equal tells whether two slices read as the same bytes.
-/
import Derived.Test.YtiebbglknmcnpaaRef
namespace Go.Proofs.Ytiebbglknmcnpaa
set_option linter.unusedVariables false
open Go.RowKit

/-- string(v), v bytes. -/
theorem run_convert_rd {P : Program} (w : World) (src dst e : TypeId) (hs : P.underlying src = some (.slice e)) (he : P.underlying e = some (.int .u8)) (hd : P.underlying dst = some .string) (v : Value) (l : List Int) (hv : Rd w v l) :
    (convert src dst v).run P w = .ok (.string (strOfNums l)) w := by
  obtain ⟨ho, a, cap, rfl, h1, h2, h3, h4⟩ := hv
  rcases Nat.eq_zero_or_pos l.length with h0 | hp
  · obtain rfl : l = [] := List.eq_nil_of_length_eq_zero h0
    cases a with
    | none => exact run_convert_bytes_nil w src e hs he 0 cap dst hd
    | some a =>
      have hl : (loadCells a 0).run P w = .ok (([] : List Int).map (Value.int .u8)).toArray w := by
        simp [loadCells, loadCellsFrom]
      rw [List.length_nil, run_convert_bytes_string w src dst e _ 0 cap hs he hd, run_bytesToString w a 0 cap [] hl]
      rfl
  · obtain ⟨b, off, rfl, hc⟩ := h4 hp
    exact run_convert_bytes_arg w src e hs he b off l.length cap l rfl hc dst hd


theorem strOfNums_inj {a b : List Int} (ha : Oct a) (hb : Oct b) (h : strOfNums a = strOfNums b) : a = b := by
  rw [← sb_strOfNums a ha, ← sb_strOfNums b hb, h]

theorem strEq {a b : List Int} (ha : Oct a) (hb : Oct b) : ((strOfNums a).toList == (strOfNums b).toList) = decide (a = b) := by
  by_cases h : a = b
  · subst h; simp
  · rw [decide_eq_false h, ByteArray.toList_eq, ByteArray.toList_eq]
    have : (strOfNums a).data.toList ≠ (strOfNums b).data.toList := fun e => h (strOfNums_inj ha hb (Go.WideShapes.bytes_inj e))
    simpa using this

theorem equal_any (v x : Value) (a b : List Int) (w : World) (hv : Rd w v a) (hx : Rd w x b) :
    Calls Try.prog 46 #[v, x] w fun e w' => e = .returned (.bool (decide (a = b))) ∧ w' = w := by
  have h1 := run_convert_rd (P := Try.prog) w 26 9 5 (by kernel_rfl) (by kernel_rfl) (by kernel_rfl) v a hv
  have h2 := run_convert_rd (P := Try.prog) w 26 9 5 (by kernel_rfl) (by kernel_rfl) (by kernel_rfl) x b hx
  have ha := hv.oct
  have hb := hx.oct
  clear hv hx
  go_enter Try.func46, Try.ntmps46
  go_wp2
  go_ret
  refine ⟨?_, rfl⟩
  rw [← strEq ha hb]
  rfl
end Go.Proofs.Ytiebbglknmcnpaa
