/-
  The reference's eight bytes of a handle, the handle of bytes, and bytes 0 that are appended.
-/
import Derived.Test.YtcacioogklgahaaRefS
import Derived.Lib.AppendZeros
namespace Go.Proofs.Ytcacioogklgahaa
set_option linter.unusedVariables false
set_option synthInstance.maxSize 20000
open Classical
open Go.RowKit Go.Maps

theorem own_byte (w : World) (B : Nat) (hB : B ≤ w.heap.size) (x : Int) (hx : 0 ≤ x ∧ x < 256) : Own B 5 (w.alloc (.cells #[.int .u8 x] 5)) (.slice (some ⟨w.heap.size, 0, none⟩) 1 1) [x] :=
  ⟨Oct.cons hx Oct.nil, rfl, .inr ⟨w.heap.size, 1, #[.int .u8 x], rfl, hB, heap_alloc_new w _, Nat.le_refl _, by unfold maxLen; omega, rfl, rfl⟩⟩

theorem be8_step (n : Int) (k : Nat) (hk : k < 8) : (be8 n).drop (8 - (k + 1)) = (n / 256 ^ k % 256) :: (be8 n).drop (8 - k) := by
  have h8 : k = 0 ∨ k = 1 ∨ k = 2 ∨ k = 3 ∨ k = 4 ∨ k = 5 ∨ k = 6 ∨ k = 7 := by omega
  rcases h8 with rfl | rfl | rfl | rfl | rfl | rfl | rfl | rfl <;> simp [be8]

set_option maxHeartbeats 1000000 in
theorem eight_any (n : Int) (w : World) (hn : U64 n) :
    Calls Try.prog 53 #[.int .u64 n] w fun e w' => ∃ v', e = .returned v' ∧ Own w.heap.size 5 w' v' (be8 n) ∧ Below w.heap.size w w' := by
  unfold U64 at hn
  go_enter Try.func53, Try.ntmps53
  go_wp2
  go_loopw [0, 3, 4] (fun nv v i wr => ∃ k : Nat, k ≤ 8 ∧ i = .int .i64 k ∧ nv = .int .u64 (n / 256 ^ k) ∧ Hid (Own w.heap.size 5 wr v ((be8 n).drop (8 - k))) ∧ Hid (Below w.heap.size w wr)) (fun _ _ i _ => 8 - (intOf i).toNat)
  case atStart => exact ⟨0, by omega, rfl, by simp, own_nil _ _ _, Below.refl _ _⟩
  case round =>
    obtain ⟨k, hk, rfl, rfl, HO, HB⟩ := hrel
    by_cases h8 : k < 8
    · have hN0 : 0 ≤ n / 256 ^ k := Int.ediv_nonneg hn.1 (Int.pow_nonneg (by omega))
      have hN1 : n / 256 ^ k < 18446744073709551616 := Int.lt_of_le_of_lt (Int.ediv_le_self _ hn.1) hn.2
      have hstep := be8_step n k h8
      have hnext : n / 256 ^ k / 256 = n / 256 ^ (k + 1) := by rw [Int.ediv_ediv_of_nonneg (Int.pow_nonneg (by omega)), Int.pow_succ]
      have HST : Hid ((be8 n).drop (8 - (k + 1)) = (n / 256 ^ k % 256) :: (be8 n).drop (8 - k) ∧ n / 256 ^ k / 256 = n / 256 ^ (k + 1)) := ⟨hstep, hnext⟩
      clear hstep hnext
      generalize n / 256 ^ k = N at HST hN0 hN1 ⊢
      have hlen : ((be8 n).drop (8 - k)).length ≤ 8 := by simp [be8]
      generalize (be8 n).drop (8 - k) = l at HST HO hlen
      obtain ⟨va, vc, rfl⟩ := HO.out.rd.len
      have ht : N.tmod 256 = N % 256 := Int.tmod_eq_emod_of_nonneg hN0
      have hq : N.tdiv 256 = N / 256 := Int.tdiv_eq_ediv_of_nonneg hN0
      go_wp2_with (at_builtin; go_must (refine wpList_append_cells 38 5 bytes5 rfl _ _ rfl w.heap.size _ [N % 256] rfl (own_byte wr w.heap.size HB.out.size (N % 256) (by omega)) _ l rfl (HO.out.rd.below (balloc (Below.refl _ _) _)) (by simp; omega) (by have := HB.out.size; simp; omega) ?_; intro v' w' hown hg))
      obtain ⟨va2, vc2, rfl⟩ := hown.rd.len
      go_roundw
      case rel =>
        refine ⟨k + 1, by omega, by go_num, by rw [← HST.out.2], ?_, ?_⟩
        · rw [HST.out.1]
          exact hown
        · exact bgrown (b := wr.heap.size) (balloc HB.out _) HB.out.size hg
      case measure => simp [intOf]; omega
    · obtain rfl : k = 8 := by omega
      obtain ⟨va, vc, rfl⟩ := HO.out.rd.len
      go_wp2
      go_ret
      exact ⟨_, rfl, HO.out, HB.out⟩

/-- The handle that bytes tell: none, if they are too few, or a byte behind the eighth is not 0. -/
def refHandle (l : List Int) : Int := if l.length < 8 then 0 else if l.drop 8 = List.replicate (l.length - 8) 0 then upTo l 8 else 0
theorem zeros_tail (l : List Int) : l.drop 8 = List.replicate (l.length - 8) 0 ↔ ∀ j, 8 ≤ j → j < l.length → l.getD j 0 = 0 := by
  constructor
  · intro h j h1 h2
    have := congrArg (fun m => m[j - 8]?) h
    simp only [List.getElem?_drop, List.getElem?_replicate, if_pos (show j - 8 < l.length - 8 by omega)] at this
    rw [show 8 + (j - 8) = j by omega] at this
    rw [List.getD_eq_getElem?_getD, this]
    rfl
  · intro h
    apply List.ext_getElem?
    intro i
    rw [List.getElem?_drop, List.getElem?_replicate]
    split
    · have := h (8 + i) (by omega) (by omega)
      rw [List.getD_eq_getElem?_getD, List.getElem?_eq_getElem (show 8 + i < l.length by omega)] at this
      rw [List.getElem?_eq_getElem (show 8 + i < l.length by omega)]
      simpa using this
    · exact List.getElem?_eq_none (by omega)

theorem refHandle_short {l : List Int} (h : l.length < 8) : refHandle l = 0 := by unfold refHandle; rw [if_pos h]
theorem refHandle_bad {l : List Int} (h : ¬ l.length < 8) (hz : ¬ ∀ j, 8 ≤ j → j < l.length → l.getD j 0 = 0) : refHandle l = 0 := by unfold refHandle; rw [if_neg h, if_neg (fun e => hz ((zeros_tail l).1 e))]
theorem refHandle_ok {l : List Int} (h : ¬ l.length < 8) (hz : ∀ j, 8 ≤ j → j < l.length → l.getD j 0 = 0) : refHandle l = upTo l 8 := by unfold refHandle; rw [if_neg h, if_pos ((zeros_tail l).2 hz)]

set_option maxHeartbeats 1000000 in
theorem handle_any (v : Value) (l : List Int) (w : World) (hv : Rd w v l) :
    Calls Try.prog 55 #[v] w fun e w' => e = .returned (.int .u64 (refHandle l)) ∧ w' = w := by
  have ho := hv.oct
  have HV : Hid (Rd w v l) := hv
  obtain ⟨_, a, c, rfl, h1, h2, h3, h4⟩ := hv
  unfold maxLen at h2
  by_cases hs : l.length < 8
  · rw [refHandle_short hs]
    go_enter Try.func55, Try.ntmps55
    go_wp2
    go_ret
    exact ⟨rfl, rfl⟩
  · have HS8 : Hid (¬ l.length < 8) := hs
    obtain ⟨b, off, rfl, hc⟩ := h4 (by omega)
    have HC : Hid (∀ j, j < l.length → w.cell? ⟨b, off + j, none⟩ = some (.int .u8 (l.getD j 0))) := hc
    have HO : Hid (Oct l) := ho
    clear h4 hc h3 ho
    go_enter Try.func55, Try.ntmps55
    go_wp2
    go_loopw [3, 4] (fun nv i wr => ∃ k : Nat, k ≤ 8 ∧ i = .int .i64 k ∧ nv = .int .u64 (upTo l k) ∧ wr = w) (fun _ i _ => 8 - (intOf i).toNat)
    case atStart => exact ⟨0, by omega, rfl, rfl, rfl⟩
    case round =>
      obtain ⟨k, hk, rfl, rfl, rfl⟩ := hrel
      by_cases h8 : k < 8
      · have cj := HC.out k (by omega)
        have hx := HO.out.at k
        have hu := upTo_bound HO.out k (by omega)
        have hu2 : (256 : Int) ^ k ≤ 256 ^ 7 := by
          have : (256 : Nat) ^ k ≤ 256 ^ 7 := Nat.pow_le_pow_right (by omega) (by omega)
          have h3 := Int.ofNat_le.2 this
          rw [Int.natCast_pow, Int.natCast_pow] at h3
          exact h3
        have e7 : (256 : Int) ^ 7 = 72057594037927936 := by decide
        have hs1 : upTo l (k + 1) = upTo l k * 256 + l.getD k 0 := upTo_succ (by omega)
        have HS1 : Hid (upTo l (k + 1) = upTo l k * 256 + l.getD k 0) := hs1
        clear hs1
        obtain ⟨y, hy⟩ : ∃ y, l.getD k 0 = y := ⟨_, rfl⟩
        rw [hy] at cj hx HS1
        clear hy
        have w1 : IntKind.u64.wrap (upTo l k * 256) = upTo l k * 256 := wraps_u64 _ (by omega) (by omega)
        have w2 : IntKind.u64.wrap (upTo l k * 256 + y) = upTo l k * 256 + y := wraps_u64 _ (by omega) (by omega)
        have w3 : IntKind.u64.wrap y = y := wraps_u64 _ (by omega) (by omega)
        clear hu hu2 e7
        generalize upTo l k = N at HS1 w1 w2 ⊢
        go_wp2
        go_roundw
        case rel => exact ⟨k + 1, by omega, by go_num, by rw [HS1.out], by first | rfl | trivial⟩
        case measure => simp [intOf]; omega
      · obtain rfl : k = 8 := by omega
        obtain ⟨N, hN8⟩ : ∃ N, upTo l 8 = N := ⟨_, rfl⟩
        have HN8 : Hid (upTo l 8 = N) := hN8
        rw [hN8]
        clear hN8
        go_wp2
        go_loopw [5] (fun i wr2 => ∃ k : Nat, 8 ≤ k ∧ k ≤ l.length ∧ i = .int .i64 k ∧ Hid (∀ j, 8 ≤ j → j < k → l.getD j 0 = 0) ∧ wr2 = wr) (fun i _ => l.length - (intOf i).toNat)
        case atStart => exact ⟨8, by omega, by omega, rfl, (fun j h1 h2 => by omega), rfl⟩
        case round =>
          obtain ⟨k, hk, hkl, rfl, HZ, rfl⟩ := hrel
          by_cases hlt : k < l.length
          · have cj := HC.out k hlt
            obtain ⟨y, hy⟩ : ∃ y, l.getD k 0 = y := ⟨_, rfl⟩
            have HY : Hid (l.getD k 0 = y) := hy
            rw [hy] at cj
            clear hy
            by_cases h0 : y = 0
            · subst h0
              go_wp2
              go_roundw
              case rel => exact ⟨k + 1, by omega, by omega, by go_num, (fun j h1 h2 => by
                by_cases e : j = k
                · rw [e]; exact HY.out
                · exact HZ.out j h1 (by omega)), by first | rfl | trivial⟩
              case measure => simp [intOf]; omega
            · have h0' : (y != 0) = true := by simpa using h0
              have HN : Hid (¬ ∀ j, 8 ≤ j → j < l.length → l.getD j 0 = 0) := (fun h => h0 (by rw [← HY.out]; exact h k hk hlt) : ¬ _)
              clear h0
              go_wp2
              go_ret
              rw [refHandle_bad HS8.out HN.out]
              exact ⟨rfl, rfl⟩
          · obtain rfl : k = l.length := by omega
            go_wp2
            go_ret
            rw [refHandle_ok HS8.out HZ.out, HN8.out]
            exact ⟨rfl, rfl⟩

/-! ### bytes 0 behind -/
theorem zc (m : Nat) : (Builtin.zeroCells #[Value.int .u8 0] m).toList = cs8 (List.replicate m 0) := by
  apply List.ext_getElem
  · simp [Builtin.zeroCells, cs8]
  · intro i h1 h2
    simp [Builtin.zeroCells, cs8, Nat.mod_one]

theorem run_append_zeros {P : Program} (w : World) (B : Nat) (t tn ty e : TypeId) (i : TypeInfo) (k kn : IntKind) (ht : P.underlying t = some (.slice e)) (htn : P.underlying tn = some (.int kn)) (hi : P.info? e = some i) (hz : i.zero = some (.int .u8 0)) (hs : i.size = 1) (hby : i.bytes = 1)
    (g n cap : Nat) (cur : Array Value) (l : List Int) (hg : w.heap[g]? = some (.cells cur e (0, 0))) (hle : n ≤ cap) (hm : cap ≤ maxLen) (hcs : cur.size = cap) (htake : cur.toList.take n = cs8 l) (m : Nat) (h0 : 0 < m) (hm2 : n + m ≤ 100000) (hB : B ≤ w.heap.size) (hBg : B ≤ g) :
    ∃ v' w', (Builtin.append_ #[t, tn] ty #[.slice (some ⟨g, 0, none⟩) n cap, .int k m]).run P w = .ok v' w' ∧ w'.ownsRow B e 1 v' (n + m) (cs8 (l ++ List.replicate m 0)) ∧ w.grownBy w' (some g) := by
  have hln : l.length = n := by
    have := congrArg List.length htake
    simp [cs8] at this
    omega
  have hw : IntKind.i64.wrap (m : Int) = m := by rw [IntKind.wrap_i64]; omega
  have hneg : ¬ ((m : Int) < 0) := by omega
  have hm0 : ¬ m = 0 := by omega
  have h48i : ¬ (281474976710656 < (m : Int)) := by omega
  have hzl : (Builtin.zeroCells #[Value.int .u8 0] m).toList = cs8 (List.replicate m 0) := zc m
  by_cases hroom : n + m ≤ cap
  · have hst := run_storeCells_at P g n e (cs8 (List.replicate m 0)) 0 cur w hg (by simp [cs8]; omega) (cs8_one _)
    simp only [Nat.add_zero] at hst
    refine ⟨.slice (some ⟨g, 0, none⟩) (n + m) cap, w.setRow g (cur.toList.take n ++ cs8 (List.replicate m 0) ++ cur.toList.drop (n + (cs8 (List.replicate m 0)).length)).toArray, ?_, ?_, ?_⟩
    · simp [Builtin.append_, run_underlying ht, run_underlying htn, sizeOf, typeInfo, zeroValue, hi, hz, hs, hby, asInt, asIntOf, hw, hneg, hm0, h48i, hroom, Addr.add_lit, Value.cells, hzl, hst]
    · refine ⟨by simp [cs8]; omega, .inr ⟨g, cap, _, rfl, hBg, setRow_heap w g cur _ e _ hg, hroom, hm, ?_, ?_⟩⟩
      · simp [cs8]
        omega
      · rw [htake, cs8_append]
        have hl2 : (cs8 l ++ cs8 (List.replicate m 0)).length = (n + m) * 1 := by simp [cs8]; omega
        rw [← hl2]
        exact List.take_left
    · exact ⟨rfl, rfl, rfl, by simp, fun k _ hk => setRow_other w g k _ (fun e => hk (by rw [e]))⟩
  · have h63' : ¬ (9223372036854775807 < ((n : Int) + (m : Int))) := by omega
    have h48' : ¬ (281474976710656 < Builtin.nextslicecap (n + m) cap) := by
      have := growslice_fits (need := n + m) (old := cap) (bytes := 1) (by omega) (by omega)
      omega
    have holds : ∀ j u, (cs8 l)[j]? = some u → w.drew.cell? ((⟨g, 0, none⟩ : Addr).add j) = some u := by
      intro j u hj
      have hjl : j < n := by
        have := (List.getElem?_eq_some_iff.1 hj).1
        simp [cs8] at this
        omega
      rw [Addr.add_lit, Nat.zero_add]
      show w.cell? _ = _
      unfold World.cell?
      simp only [hg]
      rw [← htake, List.getElem?_take, if_pos hjl] at hj
      simpa using hj
    have hfo := run_firstCells_some (P := P) w.drew 1 n ⟨g, 0, none⟩ n cap (cs8 l) (by simp [cs8]; omega) holds
    have hge := grownCap_ge w (n + m) cap e
    have hcm : grownCap w (n + m) cap e ≤ maxLen := grownCap_le_maxLen w (n + m) cap e (by unfold maxLen; omega)
    refine ⟨.slice (some ⟨w.heap.size, 0, none⟩) (n + m) (grownCap w (n + m) cap e), w.drew.alloc (.cells ((cs8 l).toArray ++ Builtin.zeroCells #[Value.int .u8 0] m ++ Builtin.zeroCells #[Value.int .u8 0] (grownCap w (n + m) cap e - (n + m))) e), ?_, ?_, ?_⟩
    · simp [Builtin.append_, run_underlying ht, run_underlying htn, sizeOf, typeInfo, zeroValue, hi, hz, hs, hby, asInt, asIntOf, hw, hneg, hm0, h48i, hroom, h63', h48', Question.forced, Value.cells, hfo, newRow, grownCap]
    · refine ⟨by simp [cs8]; omega, .inr ⟨w.heap.size, _, _, rfl, hB, heap_alloc_new w.drew _, hge, hcm, ?_, ?_⟩⟩
      · simp [size_zeroCells, cs8]
        omega
      · have hl2 : (cs8 (l ++ List.replicate m 0)).length = (n + m) * 1 := by simp [cs8]; omega
        simp only [Array.toList_append, hzl]
        rw [← hl2, cs8_append]
        exact List.take_left
    · exact ⟨rfl, rfl, rfl, by simp, fun k hk _ => heap_alloc_old w.drew _ hk⟩
end Go.Proofs.Ytcacioogklgahaa
