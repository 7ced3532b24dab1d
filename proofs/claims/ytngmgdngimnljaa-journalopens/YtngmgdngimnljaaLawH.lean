/-
  The laws' own small functions: lightRaw, Bytes.
-/
import Derived.Test.YtngmgdngimnljaaRef2
import Derived.Test.YtngmgdngimnljaaArgsJ
namespace Go.Proofs.Ytngmgdngimnljaa
set_option linter.unusedVariables false
set_option linter.unusedSimpArgs false
set_option synthInstance.maxSize 20000
set_option maxHeartbeats 2000000
set_option maxRecDepth 20000
open Go.RowKit Go.Maps

/-! ### lightRaw -/
def lightB (qs : List RawJ) : Bool := decide (qs.length ≤ 40) && qs.all (fun q => decide (q.b.length ≤ 500))
theorem lightB_true {qs : List RawJ} (h : lightB qs = true) : qs.length ≤ 40 ∧ ∀ q ∈ qs, q.b.length ≤ 500 := by
  simp only [lightB, Bool.and_eq_true, decide_eq_true_eq, List.all_eq_true] at h
  exact h
theorem rwc_cell {w : World} {a : Option Addr} {n cap : Nat} {qs : List RawJ} (h : RowF rwc w (.slice a n cap) qs) {i : Nat} {q : RawJ} (hi : qs[i]? = some q) : ∃ b off, a = some ⟨b, off, none⟩ ∧ w.rangeAt b (off + i * 7) (rwc q) := h.at rwc_len hi
theorem lightRaw15 {w : World} {v : Value} {qs : List RawJ} (h : RowF rwc w v qs) (hq : ∀ q ∈ qs, RawOk w q) : Calls Try.prog 15 #[v] w fun r w' => r = .returned (.bool (lightB qs)) ∧ w' = w := by
  obtain ⟨a, cap, rfl⟩ := h.len
  have hcap := h.caps
  have hm1 : qs.length ≤ cap := hcap.2.1
  have hm2 : cap ≤ 9223372036854775807 := hcap.2.2
  by_cases h40 : 40 < qs.length
  · have e : lightB qs = false := by
      unfold lightB
      rw [decide_eq_false (by omega), Bool.false_and]
    rw [e]
    generalize qs.length = m at *
    clear h e hcap hq
    go_enter Try.func15, Try.ntmps15
    go_wp2
    go_ret
    exact ⟨rfl, rfl⟩
  · have H : Hid (RowF rwc w (.slice a qs.length cap) qs) := h
    have HQ : Hid (∀ q ∈ qs, RawOk w q) := hq
    obtain ⟨m, hm⟩ : ∃ m, m = qs.length := ⟨_, rfl⟩
    have HM : Hid (m = qs.length) := hm
    rw [← hm] at hm1 h40 H ⊢
    clear h hcap hq hm
    go_enter Try.func15, Try.ntmps15
    go_wp2
    go_loopw [3] (fun kv wr => ∃ (k : Nat), k ≤ m ∧ kv = .int .i64 k ∧ Hid ((∀ j q, j < k → qs[j]? = some q → q.b.length ≤ 500) ∧ wr = w)) (fun kv _ => m - (intOf kv).toNat)
    case atStart => exact ⟨0, Nat.zero_le _, rfl, (fun j q hj => by omega), rfl⟩
    case round =>
      obtain ⟨k, hk, rfl, hT⟩ := hrel
      have hwr := hT.out.2
      subst hwr
      by_cases hlt : k < m
      · obtain ⟨q, hq⟩ : ∃ q, qs[k]? = some q := ⟨_, List.getElem?_eq_getElem (by rw [← HM.out]; exact hlt)⟩
        obtain ⟨bb, off, rfl, hr⟩ := rwc_cell H.out hq
        have hqo := HQ.out q (List.mem_of_getElem? hq)
        obtain ⟨qa, qc, hqv⟩ := hqo.b.len
        have hqcap := hqo.b
        rw [hqv] at hqcap
        have hqc := hqcap.cap
        have c3 : wr.cell? ⟨bb, off + k * 7 + 3, none⟩ = some (.slice qa q.b.length qc) := by
          have := hr 3 _ rfl
          rw [this, hqv]
        by_cases h5 : 500 < q.b.length
        · have E0 : Hid (lightB qs = false) := by
            show _ = _
            cases hl : lightB qs with
            | false => rfl
            | true =>
              have := (lightB_true hl).2 q (List.mem_of_getElem? hq)
              omega
          generalize q.b.length = ql at *
          clear hr hqo hqcap hqv
          go_wp2
          go_ret
          exact ⟨by rw [E0.out]; rfl, rfl⟩
        · have HT2 : Hid ((∀ j q, j < k + 1 → qs[j]? = some q → q.b.length ≤ 500) ∧ True) := ⟨fun j q' hj hq' => by
            by_cases e : j = k
            · subst e
              rw [hq] at hq'
              cases hq'
              omega
            · exact hT.out.1 j q' (by omega) hq', trivial⟩
          generalize q.b.length = ql at *
          clear hr hqo hqcap hqv
          go_wp2
          go_roundw
          case rel => exact ⟨k + 1, by omega, by go_num, HT2⟩
          case measure => simp [intOf]; omega
      · obtain rfl : k = m := by omega
        have E1 : Hid (lightB qs = true) := by
          show _ = _
          simp only [lightB, Bool.and_eq_true, decide_eq_true_eq, List.all_eq_true]
          refine ⟨by rw [← HM.out]; omega, fun q hq => ?_⟩
          obtain ⟨j, hj⟩ := List.mem_iff_getElem?.1 hq
          exact hT.out.1 j q (by rw [HM.out]; exact (List.getElem?_eq_some_iff.1 hj).1) hj
        go_wp2
        go_ret
        exact ⟨by rw [E1.out]; rfl, rfl⟩

/-! ### Bytes -/
theorem bits_u8 (k : BinOp) (x y : Int) : 0 ≤ bits k .u8 x y ∧ bits k .u8 x y < 256 := by
  unfold bits
  cases k <;> simp only <;> (try rw [IntKind.wrap_u8]) <;> omega
theorem rd_set {w : World} {g cap : Nat} {s : List Int} (h : Rd w (.slice (some ⟨g, 0, none⟩) s.length cap) s) {i : Nat} (hi : i < s.length) {z : Int} (hz : 0 ≤ z ∧ z < 256) : Rd (w.setCell ⟨g, i, none⟩ (.int .u8 z)) (.slice (some ⟨g, 0, none⟩) s.length cap) (s.set i z) := by
  obtain ⟨ho, a', cap', e, h1, h2, h3, h4⟩ := h
  obtain ⟨rfl, rfl⟩ : some ⟨g, 0, none⟩ = a' ∧ cap = cap' := by simpa using e
  refine ⟨fun x hx => ?_, some ⟨g, 0, none⟩, cap, by rw [List.length_set], by rw [List.length_set]; exact h1, h2, (fun h => by cases h), fun _ => ⟨g, 0, rfl, fun j hj => ?_⟩⟩
  · rcases List.mem_or_eq_of_mem_set hx with hx | hx
    · exact ho x hx
    · rw [hx]; exact hz
  · rw [List.length_set] at hj
    obtain ⟨b', off', e', hc⟩ := h4 (by omega)
    cases e'
    rw [Nat.zero_add]
    by_cases e : j = i
    · subst e
      have := hc j hj
      rw [Nat.zero_add] at this
      rw [World.cell?_setCell_same _ _ _ this]
      simp [List.getD_eq_getElem?_getD, hi]
    · rw [World.cell?_setCell_other _ _ _ _ (by simp [e])]
      have := hc j hj
      rw [Nat.zero_add] at this
      rw [this]
      simp [List.getD_eq_getElem?_getD, List.getElem?_set, Ne.symm e]
/-- Three cells that hold. -/
structure ThreeC (b1 o1 b2 o2 b3 o3 : Nat) (v1 v2 v3 : Value) (w : World) : Prop where
  c1 : w.cell? ⟨b1, o1, none⟩ = some v1
  c2 : w.cell? ⟨b2, o2, none⟩ = some v2
  c3 : w.cell? ⟨b3, o3, none⟩ = some v3
/-- Bytes of a raw sector, whatever they are, in new memory. -/
def OutB (B : Nat) (w' : World) (v : Value) : Prop := ∃ s, OutR B w' v s
theorem outB_nil (B : Nat) (w : World) : OutB B w nilv := ⟨[], outR_nil B w⟩
def OutBk (w w' : World) (r : Ending) : Prop := ∃ v k, r = .returned (.tuple #[v, .bool k]) ∧ OutB w.heap.size w' v ∧ Below w.heap.size w w'
theorem bytes16 {w : World} {q : RawJ} (hq : RawOk w q) (hl : q.b.length ≤ 1000000) : Calls Try.prog 16 #[.agg (rwc q).toArray] w fun r w' => OutBk w w' r := by
  obtain ⟨hg, hr, hs, hb, ⟨p0, p1⟩, ⟨a0, a1⟩, hy⟩ := hq
  obtain ⟨gen, round, seq, bv, b, part, at', by'⟩ := q
  simp only at hg hr hs hb p0 p1 a0 a1 hy hl
  obtain ⟨ab, cb, rfl⟩ := hb.len
  unfold rwc
  simp only
  obtain ⟨w1, hw1⟩ : ∃ w1, w1 = w.alloc (.cells #[.int .u32 gen, .int .u32 round, .int .u32 seq, .slice ab b.length cb, .int .i64 part, .int .i64 at', .int .u8 by'] 38) := ⟨_, rfl⟩
  have hB1 : Blk w1 w.heap.size 38 [.int .u32 gen, .int .u32 round, .int .u32 seq, .slice ab b.length cb, .int .i64 part, .int .i64 at', .int .u8 by'] := by rw [hw1]; exact blk_new w _ 38
  have hb1 : Below w.heap.size w w1 := by rw [hw1]; exact balloc (Below.refl _ _) _
  have HF : Hid (Calls Try.prog 11 #[.int .u32 gen, .int .u32 round, .int .u32 seq, .slice ab b.length cb] w1 fun r w' => ∃ v, r = .returned (.tuple #[v, .int .i64 (frameK gen round b)]) ∧ OutO w1.heap.size w' v (frameB gen round seq b) ∧ Below w1.heap.size w1 w') := rframe11o hg hr hs (hb.below hb1) hl
  have HB1 : Hid (Blk w1 w.heap.size 38 [.int .u32 gen, .int .u32 round, .int .u32 seq, .slice ab b.length cb, .int .i64 part, .int .i64 at', .int .u8 by']) := hB1
  have Hb1 : Hid (Below w.heap.size w w1) := hb1
  have HW1 : Hid (w1 = w.alloc (.cells #[.int .u32 gen, .int .u32 round, .int .u32 seq, .slice ab b.length cb, .int .i64 part, .int .i64 at', .int .u8 by'] 38)) := hw1
  have HFL : Hid ((frameB gen round seq b).length ≤ 1000 ∧ ∀ s ∈ frameB gen round seq b, s.length = 64) := by
    unfold frameB
    split
    · rename_i h9
      refine ⟨?_, fun s hs => frameL_64 hs⟩
      rw [frameL_len]
      have := partsN_le (frameK_zero.1 h9).1
      omega
    · exact ⟨by simp, fun s hs => by cases hs⟩
  generalize frameK gen round b = K at *
  generalize frameB gen round seq b = FB at *
  generalize b.length = bl at *
  clear hw1 hB1 hb1 hb hg hr hs
  go_enter Try.func16, Try.ntmps16
  go_wp2_with fail
  rw [← HW1.out]
  refine HF.out.mono ?_
  rintro r w2 ⟨v2, rfl, ⟨fs, f1, f2, f3, f4⟩, hb2⟩
  have hfl : fs.length = FB.length := by rw [← f2, LL_len]
  obtain ⟨a2, c2, hv2⟩ := f1.len
  subst hv2
  have hcap2 := f1.row.caps
  have hc21 : fs.length ≤ c2 := hcap2.2.1
  have hc22 : c2 ≤ 9223372036854775807 := hcap2.2.2
  have hf1000 : fs.length ≤ 1000 := by rw [hfl]; exact HFL.out.1
  have hB2 := HB1.out.below hb2
  have l4 := hB2.cell 4 _ rfl
  have l5 := hB2.cell 5 _ rfl
  have l6 := hB2.cell 6 _ rfl
  have HB2 : Hid (Below w.heap.size w w2) := bnext Hb1.out hb2
  have HS1 : Hid (w.heap.size < w1.heap.size) := HB1.out.lt
  have HF1 : Hid (RL w2 (.slice a2 fs.length c2) fs) := f1
  have HF3 : Hid (NewQ w1.heap.size (.slice a2 fs.length c2) fs) := f3
  have HF4 : Hid (∀ q ∈ fs, Own w1.heap.size 5 w2 q.1 q.2 ∧ q.2.length = 64) := fun q hq => ⟨f4 q hq, HFL.out.2 _ (by rw [← f2]; exact List.mem_map.2 ⟨q, hq, rfl⟩)⟩
  clear f1 f2 f3 f4 hb2 hfl hcap2 hB2 HF HW1 HFL HB1
  by_cases hK : K = 0
  · subst hK
    by_cases hp : part < 0
    · go_wp2
      refine bodyPost_ret (results_tmp2 rfl _ _ _) rfl ⟨_, _, rfl, outB_nil _ _, HB2.out⟩
    · obtain ⟨pn, hpn⟩ := Int.eq_ofNat_of_zero_le (show 0 ≤ part by omega)
      subst hpn
      by_cases hpl : fs.length ≤ pn
      · generalize fs.length = fl at *
        go_wp2
        refine bodyPost_ret (results_tmp2 rfl _ _ _) rfl ⟨_, _, rfl, outB_nil _ _, HB2.out⟩
      · obtain ⟨q, hq⟩ : ∃ q, fs[pn]? = some q := ⟨_, List.getElem?_eq_getElem (by omega)⟩
        obtain ⟨fb, fo, rfl, hcell⟩ := HF1.out.at hq
        obtain ⟨hO, h64⟩ := HF4.out q (List.mem_of_getElem? hq)
        obtain ⟨qv, s⟩ := q
        simp only at hcell hO h64
        have hO2 := hO.2
        rcases hO2.2 with ⟨e9, h0⟩ | ⟨g, gc, cur, e9, hg1, hg2, hg3, hg4, hg5, hg6⟩
        · omega
        · subst e9
          rw [h64] at hcell
          have hgB : w.heap.size ≤ g := by have := HS1.out; omega
          have hrd := hO.rd
          have hgw : g < w2.heap.size := (hO.2.lt g rfl).2
          have hne1 : g ≠ w.heap.size := by have := HS1.out; omega
          have HOut : Hid (OutB w.heap.size w2 (.slice (some ⟨g, 0, none⟩) 64 gc)) := ⟨s, by rw [h64] at hrd; exact hrd, fun k hk => by have := Option.some.inj hk; simp at this; omega⟩
          have hgc : 64 ≤ gc := by omega
          have hgc2 : gc ≤ 9223372036854775807 := by unfold maxLen at hg4; omega
          generalize hfll : fs.length = fl at *
          by_cases hat : 0 ≤ at' ∧ at' < 64
          · obtain ⟨an, han⟩ := Int.eq_ofNat_of_zero_le hat.1
            subst han
            have han64 : an < 64 := by omega
            have cx : w2.cell? ⟨g, an, none⟩ = some (.int .u8 (s.getD an 0)) := by
              obtain ⟨_, a', cap', e8, _, _, _, h8⟩ := hrd
              obtain ⟨b8, o8, e7, hc8⟩ := h8 (by omega)
              obtain ⟨rfl, _⟩ : some ⟨g, 0, none⟩ = a' ∧ gc = cap' := by simpa using e8
              cases e7
              have := hc8 an (by omega)
              rwa [Nat.zero_add] at this
            have fx : w2.frozen? ⟨g, an, none⟩ = false := hO.2.frozenAt _
            have hsetrd := rd_set hrd (i := an) (by omega) (bits_u8 .xor (s.getD an 0) by')
            have HOut2 : Hid (OutB w.heap.size (w2.drew.setCell ⟨g, an, none⟩ (.int .u8 (bits .xor .u8 (s.getD an 0) by'))) (.slice (some ⟨g, 0, none⟩) 64 gc) ∧ Below w.heap.size w (w2.drew.setCell ⟨g, an, none⟩ (.int .u8 (bits .xor .u8 (s.getD an 0) by')))) := ⟨⟨_, by rw [h64] at hsetrd; exact hsetrd, fun k hk => by have := Option.some.inj hk; simp at this; omega⟩, bgrown (HB2.out.drew) hgB (grown_setCell _ _ _ _)⟩
            generalize s.getD an 0 = x at *
            have T0 : ThreeC w.heap.size 5 w.heap.size 6 g an (.int .i64 (an : Int)) (.int .u8 by') (.int .u8 x) w2.drew := ⟨l5, l6, cx⟩
            have HT0 : Hid (ThreeC w.heap.size 5 w.heap.size 6 g an (.int .i64 (an : Int)) (.int .u8 by') (.int .u8 x) w2.drew) := T0
            have ne : Nonempty (WIn (ThreeC w.heap.size 5 w.heap.size 6 g an (.int .i64 (an : Int)) (.int .u8 by') (.int .u8 x))) := ⟨⟨_, T0⟩⟩
            have e1 : ∀ z : WIn (ThreeC w.heap.size 5 w.heap.size 6 g an (.int .i64 (an : Int)) (.int .u8 by') (.int .u8 x)), z.w.cell? ⟨w.heap.size, 5, none⟩ = some (.int .i64 (an : Int)) := fun z => z.ok.c1
            have e2 : ∀ z : WIn (ThreeC w.heap.size 5 w.heap.size 6 g an (.int .i64 (an : Int)) (.int .u8 by') (.int .u8 x)), z.w.cell? ⟨w.heap.size, 6, none⟩ = some (.int .u8 by') := fun z => z.ok.c2
            have e3 : ∀ z : WIn (ThreeC w.heap.size 5 w.heap.size 6 g an (.int .i64 (an : Int)) (.int .u8 by') (.int .u8 x)), z.w.cell? ⟨g, an, none⟩ = some (.int .u8 x) := fun z => z.ok.c3
            have cxd : w2.drew.cell? ⟨g, an, none⟩ = some (.int .u8 x) := cx
            have fxd : w2.drew.frozen? ⟨g, an, none⟩ = false := fx
            clear hO hO2 hg2 hg6 hsetrd hrd cx fx T0
            go_upto_region 6 with fail
            refine wp_region_treeZ (C := fun w' => ∃ z : WIn (ThreeC w.heap.size 5 w.heap.size 6 g an (.int .i64 (an : Int)) (.int .u8 by') (.int .u8 x)), w' = z.w) 12 (.still 0 (.still 1 (.still 2 (.still 3 (.still 4 (.still 5 (.still 6 (.still 7 (.still 8 (.still 9 (.still 10 (.still 11 .done)))))))))))) rfl (by kernel_rfl) (by kernel_rfl) ⟨⟨w2.drew, HT0.out⟩, rfl⟩ ?_
            generalize w2.drew = wd at *
            iterate 12 (refine tree_still rfl rfl ?_; go_big_quiet_step (fail); refine wpQuiet_nil ?_)
            refine tree_done ?_
            refine ⟨rfl, ?_⟩
            go_simp
            clear e1 e2 e3 ne
            go_wp2
            refine bodyPost_ret (results_tmp2 rfl _ _ _) rfl ⟨_, _, rfl, HOut2.out.1, HOut2.out.2⟩
          · clear hO hO2 hg2 hg6 hrd
            by_cases hat0 : at' < 0
            · go_wp2
              refine bodyPost_ret (results_tmp2 rfl _ _ _) rfl ⟨_, _, rfl, HOut.out, HB2.out⟩
            · have hat1 : 64 ≤ at' := by omega
              go_wp2
              refine bodyPost_ret (results_tmp2 rfl _ _ _) rfl ⟨_, _, rfl, HOut.out, HB2.out⟩
  · have hK' : (K != 0) = true := by simpa using hK
    generalize fs.length = fl at *
    clear hK
    go_wp2
    refine bodyPost_ret (results_tmp2 rfl _ _ _) rfl ⟨_, _, rfl, outB_nil _ _, HB2.out⟩
end Go.Proofs.Ytngmgdngimnljaa
