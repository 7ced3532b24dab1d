/-
  A handle in eight bytes with bytes 0 behind it, and back.
-/
import Derived.Test.YtcacioogklgahaaPuts
namespace Go.Proofs.Ytcacioogklgahaa
set_option linter.unusedVariables false
set_option synthInstance.maxSize 20000
open Classical
open Go.RowKit Go.Maps

theorem bytes5 : ByteTy Try.prog 38 5 := ⟨by kernel_rfl, by kernel_rfl⟩

def byteAt (h : Int) (k : Nat) : Int := h / 2 ^ (8 * k) % 256
/-- The bytes behind k rounds. -/
def pre (h : Int) (z : Nat) : Nat → List Int
  | 0 => List.replicate (8 + z) 0
  | k + 1 => (pre h z k).set (7 - k) (byteAt h k)
theorem pre_length (h : Int) (z : Nat) : ∀ k, (pre h z k).length = 8 + z
  | 0 => by simp [pre]
  | k + 1 => by simp [pre, pre_length h z k]
theorem pre_8 (h : Int) (z : Nat) : pre h z 8 = boxOf h z := by
  have e : List.replicate (8 + z) (0 : Int) = 0 :: 0 :: 0 :: 0 :: 0 :: 0 :: 0 :: 0 :: List.replicate z 0 := by
    rw [Nat.add_comm]; rfl
  simp only [pre, e, boxOf, be8, byteAt]
  simp
theorem cs8_set (l : List Int) (j : Nat) (x : Int) : (cs8 l).set j (.int .u8 x) = cs8 (l.set j x) := by simp [cs8, List.map_set]

theorem own_blk {w : World} {B : Nat} {l : List Int} {e : TypeId} (h : Blk w B e (cs8 l)) (ho : Oct l) (hl : l.length ≤ maxLen) : Own B e w (.slice (some ⟨B, 0, none⟩) l.length l.length) l :=
  ⟨ho, by simp [cs8], .inr ⟨B, l.length, (cs8 l).toArray, rfl, Nat.le_refl _, h, Nat.le_refl _, hl, by simp [cs8], by rw [show (cs8 l).toArray.toList = cs8 l by simp, Nat.mul_one, List.take_of_length_le (by rw [cs8_length]; exact Nat.le_refl _)]⟩⟩

set_option maxHeartbeats 1000000 in
set_option maxRecDepth 20000 in
theorem form_any (h : Int) (z : Nat) (w : World) (hh : U64 h) (hz : z ≤ 2000) :
    Calls Try.prog 45 #[.int .u64 h, .int .i64 z] w fun e w' => ∃ v', e = .returned v' ∧ Own w.heap.size 5 w' v' (boxOf h z) ∧ Below w.heap.size w w' := by
  have HU : Hid (U64 h) := hh
  clear hh
  have hlen : (boxOf h z).length = 8 + z := boxOf_length h z
  go_enter Try.func45, Try.ntmps45
  go_wp2_with (refine wpList_make_bytes 38 5 bytes5 rfl _ _ rfl .i64 .i64 _ _ (8 + z) (8 + z) rfl rfl (by go_num) (by go_num) (Nat.le_refl _) (by omega) ?_)
  go_loopw [10] (fun v wr => ∃ k : Nat, k ≤ 8 ∧ v = .int .i64 k ∧ Hid (Blk wr w.heap.size 5 (cs8 (pre h z k))) ∧ Hid (Below w.heap.size w wr)) (fun v _ => 8 - (intOf v).toNat)
  case atStart => exact ⟨0, by omega, rfl, heap_alloc_new w _, (Below.refl _ _).alloc (Nat.le_refl _) _⟩
  case round =>
    obtain ⟨k, hk, rfl, hb, hbl⟩ := hrel
    by_cases h8 : k < 8
    · have hl := pre_length h z k
      have c0 := hb.out.cell (7 - k) _ (cs8_at (pre h z k) (7 - k) (by omega))
      have f0 := hb.out.frozen (7 - k)
      have e1 : (7 : Int) - (k : Int) = ((7 - k : Nat) : Int) := by omega
      go_wp2
      go_roundw
      case rel =>
        refine ⟨k + 1, by omega, by go_num, ?_, ?_⟩
        · have := hb.out.set (7 - k) (.int .u8 (h / 2 ^ (8 * k) % 256))
          rw [cs8_set] at this
          exact this
        · exact hbl.out.setCell (Nat.le_refl _) _
      case measure => simp [intOf]; omega
    · obtain rfl : k = 8 := by omega
      go_wp2
      go_ret
      refine ⟨_, rfl, ?_, hbl.out⟩
      have := hb.out
      rw [pre_8] at this
      have r := own_blk this ((be8_oct h).append (Oct.zeros z)) (by rw [hlen]; unfold maxLen; omega)
      rw [hlen] at r
      exact r

/-- The number of the first k bytes. -/
def upTo (l : List Int) (k : Nat) : Int := (l.take k).foldl (fun n x => n * 256 + x) 0
theorem upTo_succ {l : List Int} {k : Nat} (h : k < l.length) : upTo l (k + 1) = upTo l k * 256 + l.getD k 0 := by
  unfold upTo
  rw [List.take_succ_eq_append_getElem h, List.foldl_append]
  simp [h]
theorem upTo_bound {l : List Int} (ho : Oct l) : ∀ k, k ≤ l.length → 0 ≤ upTo l k ∧ upTo l k < 256 ^ k
  | 0, _ => by simp [upTo]
  | k + 1, h => by
    have := upTo_bound ho k (by omega)
    rw [upTo_succ (by omega), Int.pow_succ]
    have hx := ho.at k
    omega
theorem or8 (a x : Int) (h0 : 0 ≤ a) (h1 : a < 72057594037927936) (hx : 0 ≤ x ∧ x < 256) : bits .or .u64 (IntKind.u64.wrap (a * 256)) x = a * 256 + x := by
  rw [wraps_u64 _ (by omega) (by omega)]
  exact bits_join .u64 64 (by decide) wraps_u64 8 (a * 256) x (by omega) (by omega) (by omega) hx.1 (by omega) (by omega)

set_option maxHeartbeats 1000000 in
set_option maxRecDepth 20000 in
theorem handleAt_any (v : Value) (l : List Int) (w : World) (hv : Rd w v l) :
    Calls Try.prog 61 #[v] w fun e w' => e = .returned (.int .u64 (if l.length < 8 then 0 else ofBe8 l)) ∧ w' = w := by
  have hoct := hv.oct
  have HV : Hid (Rd w v l) := hv
  obtain ⟨_, a, cap, rfl, h1, h2, h3, h4⟩ := hv
  unfold maxLen at h2
  by_cases h8 : l.length < 8
  · go_enter Try.func61, Try.ntmps61
    go_wp2
    go_ret
    exact ⟨rfl, rfl⟩
  · obtain ⟨bb, off, rfl, hc⟩ := h4 (by omega)
    clear h3 h4
    have HC : Hid (∀ j, j < l.length → w.cell? ⟨bb, off + j, none⟩ = some (.int .u8 (l.getD j 0))) := hc
    have HO : Hid (Oct l) := hoct
    clear hc hoct
    go_enter Try.func61, Try.ntmps61
    go_wp2
    go_loopw [3, 12] (fun hv iv wr => ∃ k : Nat, k ≤ 8 ∧ iv = .int .i64 k ∧ hv = .int .u64 (upTo l k) ∧ wr = w) (fun _ iv _ => 8 - (intOf iv).toNat)
    case atStart => exact ⟨0, by omega, rfl, rfl, rfl⟩
    case round =>
      obtain ⟨k, hk, rfl, rfl, rfl⟩ := hrel
      by_cases hk8 : k < 8
      · have c0 := HC.out k (by omega)
        have hx := HO.out.at k
        have hb := upTo_bound HO.out k (by omega)
        have hb2 : upTo l k < 72057594037927936 := by
          have : (256 : Int) ^ k ≤ 256 ^ 7 := by
            have : (256 : Nat) ^ k ≤ 256 ^ 7 := Nat.pow_le_pow_right (by omega) (by omega)
            have h3 := Int.ofNat_le.2 this
            rw [Int.natCast_pow, Int.natCast_pow] at h3
            exact h3
          have e : (256 : Int) ^ 7 = 72057594037927936 := by decide
          omega
        have hor : Hid _ := or8 (upTo l k) (l.getD k 0) hb.1 hb2 hx
        have HS : Hid (upTo l (k + 1) = upTo l k * 256 + l.getD k 0) := upTo_succ (by omega)
        clear hb hb2
        generalize l.getD k 0 = x at c0 hx hor HS
        go_wp2
        go_roundw
        case rel => exact ⟨k + 1, by omega, by go_num, by rw [HS.out, hor.out], trivial⟩
        case measure => simp [intOf]; omega
      · obtain rfl : k = 8 := by omega
        go_wp2
        go_ret
        exact ⟨rfl, rfl⟩
end Go.Proofs.Ytcacioogklgahaa
