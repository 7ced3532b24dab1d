/-
  The laws' own small functions: Sector, light; the chapter's example.
-/
import Derived.Test.YtfkkbloapnlbgaaDsk5
namespace Go.Proofs.Ytfkkbloapnlbgaa
set_option linter.unusedVariables false
set_option linter.unusedSimpArgs false
set_option synthInstance.maxSize 20000
set_option maxHeartbeats 2000000
set_option maxRecDepth 20000
open Go.RowKit Go.Maps

def secN (s : Bool) : Nat := if s then 63 else 64
def secL (y : Int) (s : Bool) : List Int := List.replicate (secN s) y
theorem secL_len (y : Int) (s : Bool) : (secL y s).length = secN s := by simp [secL]
theorem secL_oct {y : Int} (s : Bool) (hy : 0 ≤ y ∧ y < 256) : Oct (secL y s) := fun x hx => by
  unfold secL at hx
  rw [List.mem_replicate] at hx
  rw [hx.2]
  exact hy
/-- The first k are written. -/
def fillL (n k : Nat) (y : Int) : List Int := List.replicate k y ++ List.replicate (n - k) 0
theorem fill_step (n k : Nat) (y : Int) (h : k < n) : (cs8 (fillL n k y)).set k (.int .u8 y) = cs8 (fillL n (k + 1) y) := by
  unfold fillL
  rw [cs8_append, cs8_append, List.set_append_right _ _ (by simp [cs8])]
  have e : n - k = (n - (k + 1)) + 1 := by omega
  rw [e, List.replicate_succ, List.replicate_succ']
  simp [cs8]
theorem fill_end (n : Nat) (y : Int) : fillL n n y = List.replicate n y := by
  unfold fillL
  simp
theorem fill_zero (n : Nat) (y : Int) : fillL n 0 y = List.replicate n 0 := by
  unfold fillL
  simp
theorem fill_len (n k : Nat) (y : Int) (h : k ≤ n) : (fillL n k y).length = n := by
  unfold fillL
  simp
  omega
theorem fill_cell (n k : Nat) (y : Int) (h : k < n) : (cs8 (fillL n k y))[k]? = some (.int .u8 0) := by
  rw [cs8_at _ _ (by rw [fill_len _ _ _ (by omega)]; exact h)]
  congr 2
  unfold fillL
  rw [List.getD_eq_getElem?_getD, List.getElem?_append_right (by simp)]
  simp
  rw [List.getElem?_replicate]
  split <;> rfl
theorem own_blk {w : World} {g B n : Nat} {l : List Int} (h : Blk w g 5 (cs8 l)) (ho : Oct l) (hl : l.length = n) (hB : B ≤ g) (hn : n ≤ 1000) : Own B 5 w (.slice (some ⟨g, 0, none⟩) n n) l := by
  subst hl
  refine ⟨ho, by simp [cs8], .inr ⟨g, l.length, _, rfl, hB, h, Nat.le_refl _, by unfold maxLen; omega, by simp [cs8], ?_⟩⟩
  rw [List.take_of_length_le (by simp [cs8])]

theorem sector_any (w : World) (y : Int) (s : Bool) (hy : 0 ≤ y ∧ y < 256) : Calls Try.prog 18 #[.int .u8 y, .bool s] w fun r w' => ∃ v, r = .returned v ∧ Own w.heap.size 5 w' v (secL y s) ∧ Below w.heap.size w w' := by
  have hlen := secL_len y s
  have HO : Hid (Oct (secL y s)) := secL_oct s hy
  have HE : Hid (fillL (secN s) (secN s) y = secL y s) := fill_end _ _
  have hn0 : (cs8 (List.replicate (secN s) 0)) = cs8 (fillL (secN s) 0 y) := by rw [fill_zero]
  cases s
  · unfold secN at *
    simp only [Bool.false_eq_true, if_false] at *
    obtain ⟨w1, hw1⟩ : ∃ w1, w1 = w.alloc (.cells (cs8 (List.replicate 64 0)).toArray 5) := ⟨_, rfl⟩
    have B1 : Blk w1 w.heap.size 5 (cs8 (fillL 64 0 y)) := by rw [hw1, ← hn0]; exact blk_new w _ 5
    have b1 : Below w.heap.size w w1 := by rw [hw1]; exact balloc (Below.refl _ _) _
    have HB1 : Hid (Blk w1 w.heap.size 5 (cs8 (fillL 64 0 y))) := B1
    have Hb1 : Hid (Below w.heap.size w w1) := b1
    have HW1 : Hid (w1 = w.alloc (.cells (cs8 (List.replicate 64 0)).toArray 5)) := hw1
    clear hw1 B1 b1 hn0
    go_enter Try.func18, Try.ntmps18
    go_wp2_with (refine wpList_make_bytes 43 5 byteTy rfl (.tmp 11) (.tmp 11) rfl .i64 .i64 64 64 64 64 rfl rfl rfl rfl (Nat.le_refl _) (by omega) ?_; rw [← HW1.out])
    clear HW1
    go_loopw [7] (fun i wr => ∃ k : Nat, i = .int .i64 k ∧ k ≤ 64 ∧ Hid (Blk wr w.heap.size 5 (cs8 (fillL 64 k y))) ∧ Hid (Below w.heap.size w wr)) (fun i _ => 64 - (intOf i).toNat)
    case atStart => exact ⟨0, rfl, by omega, HB1, Hb1⟩
    case round =>
      obtain ⟨k, rfl, hk, HB, Hb⟩ := hrel
      by_cases hkl : k < 64
      · have c0 := HB.out.cell k _ (fill_cell 64 k y hkl)
        have f0 := HB.out.frozen k
        have HB2 : Hid (Blk (wr.setCell ⟨w.heap.size, k, none⟩ (.int .u8 y)) w.heap.size 5 (cs8 (fillL 64 (k + 1) y))) := by
          have := HB.out.set k (.int .u8 y)
          rw [fill_step 64 k y hkl] at this
          exact this
        have Hb2 : Hid (Below w.heap.size w (wr.setCell ⟨w.heap.size, k, none⟩ (.int .u8 y))) := bgrown Hb.out (Nat.le_refl _) (grown_setCell _ _ _ _)
        have hk3 : (k : Int) < 64 := by omega
        clear HB Hb HB1 Hb1
        go_wp2
        go_roundw
        case rel => exact ⟨k + 1, by go_num, by omega, HB2, Hb2⟩
        case measure => simp [intOf]; omega
      · obtain rfl : k = 64 := by omega
        have HR : Hid (Own w.heap.size 5 wr (.slice (some ⟨w.heap.size, 0, none⟩) 64 64) (secL y false)) := by
          have := HB.out
          rw [HE.out] at this
          exact own_blk this HO.out hlen (Nat.le_refl _) (by omega)
        clear HB HB1 Hb1
        go_wp2
        go_ret
        exact ⟨_, rfl, HR.out, Hb.out⟩
  · unfold secN at *
    simp only [if_true] at *
    obtain ⟨w1, hw1⟩ : ∃ w1, w1 = w.alloc (.cells (cs8 (List.replicate 63 0)).toArray 5) := ⟨_, rfl⟩
    have B1 : Blk w1 w.heap.size 5 (cs8 (fillL 63 0 y)) := by rw [hw1, ← hn0]; exact blk_new w _ 5
    have b1 : Below w.heap.size w w1 := by rw [hw1]; exact balloc (Below.refl _ _) _
    have HB1 : Hid (Blk w1 w.heap.size 5 (cs8 (fillL 63 0 y))) := B1
    have Hb1 : Hid (Below w.heap.size w w1) := b1
    have HW1 : Hid (w1 = w.alloc (.cells (cs8 (List.replicate 63 0)).toArray 5)) := hw1
    clear hw1 B1 b1 hn0
    go_enter Try.func18, Try.ntmps18
    go_wp2_with (refine wpList_make_bytes 43 5 byteTy rfl (.tmp 11) (.tmp 11) rfl .i64 .i64 63 63 63 63 rfl rfl rfl rfl (Nat.le_refl _) (by omega) ?_; rw [← HW1.out])
    clear HW1
    go_loopw [7] (fun i wr => ∃ k : Nat, i = .int .i64 k ∧ k ≤ 63 ∧ Hid (Blk wr w.heap.size 5 (cs8 (fillL 63 k y))) ∧ Hid (Below w.heap.size w wr)) (fun i _ => 63 - (intOf i).toNat)
    case atStart => exact ⟨0, rfl, by omega, HB1, Hb1⟩
    case round =>
      obtain ⟨k, rfl, hk, HB, Hb⟩ := hrel
      by_cases hkl : k < 63
      · have c0 := HB.out.cell k _ (fill_cell 63 k y hkl)
        have f0 := HB.out.frozen k
        have HB2 : Hid (Blk (wr.setCell ⟨w.heap.size, k, none⟩ (.int .u8 y)) w.heap.size 5 (cs8 (fillL 63 (k + 1) y))) := by
          have := HB.out.set k (.int .u8 y)
          rw [fill_step 63 k y hkl] at this
          exact this
        have Hb2 : Hid (Below w.heap.size w (wr.setCell ⟨w.heap.size, k, none⟩ (.int .u8 y))) := bgrown Hb.out (Nat.le_refl _) (grown_setCell _ _ _ _)
        have hk3 : (k : Int) < 63 := by omega
        clear HB Hb HB1 Hb1
        go_wp2
        go_roundw
        case rel => exact ⟨k + 1, by go_num, by omega, HB2, Hb2⟩
        case measure => simp [intOf]; omega
      · obtain rfl : k = 63 := by omega
        have HR : Hid (Own w.heap.size 5 wr (.slice (some ⟨w.heap.size, 0, none⟩) 63 63) (secL y true)) := by
          have := HB.out
          rw [HE.out] at this
          exact own_blk this HO.out hlen (Nat.le_refl _) (by omega)
        clear HB HB1 Hb1
        go_wp2
        go_ret
        exact ⟨_, rfl, HR.out, Hb.out⟩

def lightB (qs : List (OpD × Value)) : Bool := decide (qs.length ≤ 60) && qs.all (fun q => decide (q.1.ks.length ≤ 60))
theorem light_few {qs : List (OpD × Value)} (h : lightB qs = true) : qs.length ≤ 60 ∧ ∀ q ∈ qs, q.1.ks.length ≤ 60 := by
  unfold lightB at h
  rw [Bool.and_eq_true, List.all_eq_true] at h
  exact ⟨of_decide_eq_true h.1, fun q hq => of_decide_eq_true (h.2 q hq)⟩
theorem light_any {w : World} {v : Value} {qs : List (OpD × Value)} (hv : RowF oc w v qs) (hok : OpsOk w qs) : Calls Try.prog 7 #[v] w fun r w' => r = .returned (.bool (lightB qs)) ∧ w' = w := by
  have HV : Hid (RowF oc w v qs) := hv
  obtain ⟨a, cap, rfl⟩ := hv.len
  have hcap := hv.caps
  by_cases hl : qs.length ≤ 60
  · have HLI : Hid (lightB qs = qs.all (fun q => decide (q.1.ks.length ≤ 60))) := by
      show _ = _
      unfold lightB
      rw [decide_eq_true hl]
      rfl
    have HS : Hid (∀ q ∈ qs.take 0, q.1.ks.length ≤ 60) := fun q hq => by simp at hq
    clear hv
    go_enter Try.func7, Try.ntmps7
    go_wp2
    go_loopw [3] (fun i wr => ∃ k : Nat, i = .int .i64 k ∧ k ≤ qs.length ∧ Hid (∀ q ∈ qs.take k, q.1.ks.length ≤ 60) ∧ Hid (w = wr)) (fun i _ => qs.length - (intOf i).toNat)
    case atStart => exact ⟨0, rfl, by omega, HS, (show w = w from rfl)⟩
    case round =>
      obtain ⟨k, rfl, hk, HA, HW⟩ := hrel
      have hww := HW.out
      subst hww
      by_cases hkl : k < qs.length
      · obtain ⟨q, hq⟩ : ∃ q, qs[k]? = some q := ⟨_, List.getElem?_eq_getElem hkl⟩
        obtain ⟨g, off, ea, hr⟩ := HV.out.at oc_len hq
        subst ea
        have c4 := hr 4 _ rfl
        have hks := (hok q (List.mem_of_getElem? hq)).ks
        obtain ⟨a2, cap2, hq2⟩ := hks.len
        rw [hq2] at c4 hks
        have hcap2 := hks.caps
        have hk3 : (k : Int) < (qs.length : Int) := by omega
        by_cases hq60 : q.1.ks.length ≤ 60
        · have HA2 : Hid (∀ q ∈ qs.take (k + 1), q.1.ks.length ≤ 60) := fun q' hq' => by
            rw [List.take_add_one, hq] at hq'
            rcases List.mem_append.1 hq' with h | h
            · exact HA.out q' h
            · simp at h; subst h; exact hq60
          generalize q.1.ks.length = L at *
          clear hr hks hq2 hq HA HS HLI hok
          go_wp2
          go_roundw
          case rel => exact ⟨k + 1, by go_num, by omega, HA2, trivial⟩
          case measure => simp [intOf]; omega
        · have HF : Hid (lightB qs = false) := by
            show lightB qs = false
            rw [HLI.out, List.all_eq_false]
            exact ⟨q, List.mem_of_getElem? hq, by simp; omega⟩
          generalize q.1.ks.length = L at *
          clear hr hks hq2 hq HA HS HLI hok
          go_wp2
          go_ret
          exact ⟨(by rw [HF.out]; rfl), rfl⟩
      · obtain rfl : k = qs.length := by omega
        have HF : Hid (lightB qs = true) := by
          show lightB qs = true
          rw [HLI.out, List.all_eq_true]
          exact fun q hq => decide_eq_true (HA.out q (by rw [List.take_length]; exact hq))
        clear HA HS HLI hok
        go_wp2
        go_ret
        exact ⟨(by rw [HF.out]; rfl), rfl⟩
  · have HF : Hid (lightB qs = false) := by
      show lightB qs = false
      unfold lightB
      rw [decide_eq_false hl]
      rfl
    clear hv hok HV
    go_enter Try.func7, Try.ntmps7
    go_wp2
    go_ret
    exact ⟨(by rw [HF.out]; rfl), rfl⟩

/-! ### The chapter's example -/
def aD1 : Dk := ((newD 2).write 0 (secL 1 false)).2
def aD2 : Dk := aD1.sync.2
def aD3 : Dk := (aD2.write 0 (secL 2 false)).2
def aD4 : Dk := aD3.restart [false]
theorem aD_read : aD4.readK 0 = 0 ∧ (aD4.readS 0).d.getD 0 0 = 1 := by decide +kernel

theorem alive_any (w : World) : Calls Try.prog 8 #[] w fun r w' => r = .returned (.bool true) ∧ Below w.heap.size w w' := by
  have HN : Hid (Calls Try.prog 9 #[.int .i64 2] w fun r w' => r = .returned (.tuple #[ptr (w.heap.size + 2), .int .i64 0]) ∧ DIs w' (newTo (fun _ => 0) w 5) 5 (w.heap.size + 2) (newD 2) ∧ Below w.heap.size w w') := dnew_any w (fun _ => 0) 5 2 (by omega) (by omega) (by omega)
  have ok0 : DOk (newD 2) 0 := newD_ok 2 (by omega) (by omega)
  have ok1 : DOk aD1 1 := ok0.write
  have ok2 : DOk aD2 1 := ok1.sync
  have ok3 : DOk aD3 2 := ok2.write
  have ok4 : DOk aD4 2 := ok3.restart _
  have HS1 : Hid (∀ w', Calls Try.prog 18 #[.int .u8 1, .bool false] w' fun r w2 => ∃ v, r = .returned v ∧ Own w'.heap.size 5 w2 v (secL 1 false) ∧ Below w'.heap.size w' w2) := fun w' => sector_any w' 1 false (by omega)
  have HS2 : Hid (∀ w', Calls Try.prog 18 #[.int .u8 2, .bool false] w' fun r w2 => ∃ v, r = .returned v ∧ Own w'.heap.size 5 w2 v (secL 2 false) ∧ Below w'.heap.size w' w2) := fun w' => sector_any w' 2 false (by omega)
  have HW1 : Hid (∀ (w' : World) (o' : Nat → Nat) (b : Nat) (v : Value), DIs w' o' 5 b (newD 2) → Rd w' v (secL 1 false) → Calls Try.prog 17 #[ptr b, .int .i64 0, v] w' fun r w2 => ∃ k, r = .returned (.int .i64 k) ∧ ∃ o2, DIs w2 o2 5 b aD1 ∧ Mv [5] w' o' w2 o2) := fun w' o' b v ⟨_, _, _, h⟩ hr => (write_any h ok0 (by omega) 0 hr).mono fun r w2 ⟨e, h2⟩ => ⟨_, e, h2⟩
  have HY : Hid (∀ (w' : World) (o' : Nat → Nat) (b : Nat), DIs w' o' 5 b aD1 → Calls Try.prog 19 #[ptr b] w' fun r w2 => ∃ k, r = .returned (.int .i64 k) ∧ ∃ o2, DIs w2 o2 5 b aD2 ∧ Mv [5] w' o' w2 o2) := fun w' o' b ⟨_, _, _, h⟩ => (sync_any h ok1 (by omega)).mono fun r w2 ⟨e, h2⟩ => ⟨_, e, h2⟩
  have HW2 : Hid (∀ (w' : World) (o' : Nat → Nat) (b : Nat) (v : Value), DIs w' o' 5 b aD2 → Rd w' v (secL 2 false) → Calls Try.prog 17 #[ptr b, .int .i64 0, v] w' fun r w2 => ∃ k, r = .returned (.int .i64 k) ∧ ∃ o2, DIs w2 o2 5 b aD3 ∧ Mv [5] w' o' w2 o2) := fun w' o' b v ⟨_, _, _, h⟩ hr => (write_any h ok2 (by omega) 0 hr).mono fun r w2 ⟨e, h2⟩ => ⟨_, e, h2⟩
  have HR : Hid (∀ (w' : World) (o' : Nat → Nat) (b : Nat) (v : Value), DIs w' o' 5 b aD3 → (∀ w2 o2, Mv [5] w' o' w2 o2 → RowF bc w2 v [false]) → Calls Try.prog 21 #[ptr b, v] w' fun r w2 => r = .returned (.int .i64 0) ∧ ∃ o2, DIs w2 o2 5 b aD4 ∧ Mv [5] w' o' w2 o2) := fun w' o' b v ⟨_, _, _, h⟩ hr => restart_any h ok3 (by omega) hr
  have HL : Hid (∀ (w' : World) (o' : Nat → Nat) (b : Nat), DIs w' o' 5 b aD4 → Calls Try.prog 22 #[ptr b, .int .i64 0] w' fun r w2 => r = .returned (.tuple #[.slice (some ⟨w'.heap.size, 0, none⟩) 64 64, .int .i64 0]) ∧ w2.cell? ⟨w'.heap.size, 0, none⟩ = some (.int .u8 1) ∧ Below w'.heap.size w' w2) := fun w' o' b ⟨_, _, _, h⟩ => (read_any h 0).mono fun r w2 ⟨v, e, h2, h3⟩ => by
    unfold ReadOut at h2
    rw [aD_read.1] at e h2
    rw [if_pos rfl] at h2
    refine ⟨by rw [e, h2.1], ?_, h3⟩
    have := h2.2.cell 0 _ (kc_byte _ 0 (by omega))
    rw [aD_read.2] at this
    exact this
  have HFin : Hid (∀ (w1 w2 : World) (o2 : Nat → Nat), Below w.heap.size w w1 → Mv [5] w1 (newTo (fun _ => 0) w 5) w2 o2 → Below w.heap.size w w2) := fun w1 w2 o1 hb hm => hb.trans (hm.below hb.size (fun k hk => by rw [newTo_old hk]; simp))
  have HK : Hid (∀ (w1 : World) (o1 : Nat → Nat) (w2 : World) (o2 : Nat → Nat), Mv [5] (w1.alloc (.cells #[.bool false] 4)) (newTo o1 w1 0) w2 o2 → RowF bc w2 (.slice (some ⟨w1.heap.size, 0, none⟩) 1 1) [false]) := fun w1 o1 w2 o2 m => by
    refine (rowF_one (f := bc) w1 false 4).blocks (fun k hk hlt => m.block k hlt ?_)
    have : k = w1.heap.size := (Option.some.inj hk).symm
    subst this
    rw [newTo_new (Nat.le_refl _)]
    simp
  clear ok0 ok1 ok2 ok3 ok4
  have t1 : Hid True := trivial
  have t2 : Hid True := trivial
  go_enter Try.func8, Try.ntmps8
  go_upto_region 5 with (first
    | (go_at_call 9; go_must (refine HN.out.mono ?_; rintro r w1 ⟨rfl, hB1, hb1⟩; have HB1 : Hid (DIs w1 (newTo (fun _ => 0) w 5) 5 (w.heap.size + 2) (newD 2)) := hB1; have Hb1 : Hid (Below w.heap.size w w1) := hb1; clear hB1 hb1))
    | (replace t1 := t1; go_at_call 18; go_must (refine (HS1.out w1).mono ?_; rintro r w2 ⟨v2, rfl, r2, b2⟩; obtain ⟨a2, c2, hv2⟩ := r2.rd.len; subst hv2; have Hr2 : Hid (Rd w2 (.slice a2 (secL 1 false).length c2) (secL 1 false)) := r2.rd; have HB2 : Hid (DIs w2 (newTo (newTo (fun _ => 0) w 5) w1 0) 5 (w.heap.size + 2) (newD 2)) := HB1.out.below b2; have HM2 : Hid (Mv [5] w1 (newTo (fun _ => 0) w 5) w2 (newTo (newTo (fun _ => 0) w 5) w1 0)) := Mv.of_below 0 b2; clear r2 b2 t1))
    | (replace HS1 := HS1; go_at_call 17; go_must (refine (HW1.out w2 _ _ _ HB2.out Hr2.out).mono ?_; rintro r w3 ⟨k3, rfl, o3, hB3, m3⟩; have HB3 : Hid (DIs w3 o3 5 (w.heap.size + 2) aD1) := hB3; have HM3 : Hid (Mv [5] w1 (newTo (fun _ => 0) w 5) w3 o3) := HM2.out.trans m3; clear hB3 m3 HS1))
    | (go_at_call 19; go_must (refine (HY.out w3 _ _ HB3.out).mono ?_; rintro r w4 ⟨k4, rfl, o4, hB4, m4⟩; have HB4 : Hid (DIs w4 o4 5 (w.heap.size + 2) aD2) := hB4; have HM4 : Hid (Mv [5] w1 (newTo (fun _ => 0) w 5) w4 o4) := HM3.out.trans m4; clear hB4 m4))
    | (replace t2 := t2; go_at_call 18; go_must (refine (HS2.out w4).mono ?_; rintro r w5 ⟨v5, rfl, r5, b5⟩; obtain ⟨a5, c5, hv5⟩ := r5.rd.len; subst hv5; have Hr5 : Hid (Rd w5 (.slice a5 (secL 2 false).length c5) (secL 2 false)) := r5.rd; have HB5 : Hid (DIs w5 (newTo o4 w4 0) 5 (w.heap.size + 2) aD2) := HB4.out.below b5; have HM5 : Hid (Mv [5] w1 (newTo (fun _ => 0) w 5) w5 (newTo o4 w4 0)) := HM4.out.trans (Mv.of_below 0 b5); clear r5 b5 t2))
    | (go_at_call 17; go_must (refine (HW2.out w5 _ _ _ HB5.out Hr5.out).mono ?_; rintro r w6 ⟨k6, rfl, o6, hB6, m6⟩; have HB6 : Hid (DIs w6 o6 5 (w.heap.size + 2) aD3) := hB6; have HM6 : Hid (Mv [5] w1 (newTo (fun _ => 0) w 5) w6 o6) := HM5.out.trans m6; clear hB6 m6)))
  have B7 : Below w6.heap.size w6 (w6.alloc (.cells #[.bool false] 4)) := balloc (Below.refl _ _) _
  have HB7 : Hid (DIs (w6.alloc (.cells #[.bool false] 4)) (newTo o6 w6 0) 5 (w.heap.size + 2) aD3) := HB6.out.below B7
  have HM7 : Hid (Mv [5] w1 (newTo (fun _ => 0) w 5) (w6.alloc (.cells #[.bool false] 4)) (newTo o6 w6 0)) := HM6.out.trans (Mv.of_below 0 B7)
  clear B7
  go_upto_region 6 with (go_at_call 21; go_must (refine (HR.out _ _ _ _ HB7.out (HK.out w6 o6)).mono ?_; rintro r w8 ⟨rfl, o8, hB8, m8⟩; have HB8 : Hid (DIs w8 o8 5 (w.heap.size + 2) aD4) := hB8; have HM8 : Hid (Mv [5] w1 (newTo (fun _ => 0) w 5) w8 o8) := HM7.out.trans m8; clear hB8 m8))
  have HE8 : Hid (Below w.heap.size w w8) := HFin.out _ _ _ Hb1.out HM8.out
  go_wp2_with (go_at_call 22; go_must (refine (HL.out w8 _ _ HB8.out).mono ?_; rintro r w9 ⟨rfl, c9, b9⟩))
  go_ret
  exact ⟨rfl, bnext HE8.out b9⟩
end Go.Proofs.Ytfkkbloapnlbgaa
