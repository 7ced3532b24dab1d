/-
  The library's search over steps; place, Has, Len.
  A row of operations copied.
  The first of each time; a row's end cleared.
  slices.CompactFunc over a row of operations.
  swapRange and rotate of the library's stable sort, at operations.
  rotate of the library's stable sort, at operations: two runs beside each other change their places.
-/
import Derived.Test.YthnjbjlhfohpfaaGreatUdS
import Derived.Test.YthnjbjlhfohpfaaGreatRow
namespace Go.Proofs.YthnjbjlhfohpfaaGreat
section
set_option linter.unusedVariables false
set_option linter.unusedSimpArgs false
set_option synthInstance.maxSize 20000
set_option maxHeartbeats 2000000
set_option maxRecDepth 20000
open Go.RowKit Go.Maps

theorem hi_drop {L : List ST} {i : Nat} {a : S} (h : ∀ k s, L[k]? = some s → i ≤ k → ¬ ltP s.q.a a) : ∀ r ∈ L.drop i, ¬ ltP r.q.a a := fun r hr => by
  obtain ⟨k, hk, e⟩ := List.getElem_of_mem hr
  refine h (i + k) r ?_ (by omega)
  rw [← e, List.getElem?_eq_some_iff]
  have := hk
  rw [List.length_drop] at this
  exact ⟨by omega, by simp⟩
theorem lo_take {L : List ST} {i : Nat} {a : S} (h : ∀ k s, L[k]? = some s → k < i → ltP s.q.a a) : ∀ u ∈ L.take i, ltP u.q.a a := fun r hr => by
  obtain ⟨k, hk, e⟩ := List.getElem_of_mem hr
  have hk' := hk
  rw [List.length_take] at hk'
  refine h k r ?_ (by omega)
  rw [← e, List.getElem?_eq_some_iff]
  exact ⟨by omega, by simp⟩
theorem str_at {L : List ST} (hs : StrS L) {i j : Nat} {x y : ST} (hi : L[i]? = some x) (hj : L[j]? = some y) (h : i < j) : ltP x.q.a y.q.a := by
  obtain ⟨h1, rfl⟩ := List.getElem?_eq_some_iff.1 hi
  obtain ⟨h2, rfl⟩ := List.getElem?_eq_some_iff.1 hj
  exact List.pairwise_iff_getElem.1 hs i j h1 h2 h
theorem cmpS_lt (a b : S) : (cmpS a b < 0) ↔ ltP a b := cmpS_neg a b
theorem here_at {L : List ST} {i : Nat} {x : ST} {a : S} (hi : L[i]? = some x) : hereB (L.drop i) a = decide (x.q.a = a) := by
  obtain ⟨h1, rfl⟩ := List.getElem?_eq_some_iff.1 hi
  rw [List.drop_eq_getElem_cons h1]
  rfl
theorem search56 {w : World} {v : Value} {L : List ST} {a : S} (hv : SRow w v L) (hs : StrS L) (hl : L.length ≤ 1000) : Calls Tryz.prog 55 #[v, sv a, .func (.func 56) #[] #[]] w fun e w' => ∃ i, i ≤ L.length ∧ e = .returned (.tuple #[.int .i64 (i : Int), .bool (hereB (L.drop i) a)]) ∧ CutAt L (L.take i) (L.drop i) a ∧ Below w.heap.size w w' := by
  obtain ⟨ad, cap, rfl⟩ := hv.len
  have hc := fun (s : ST) w' => cmp57 s a w'
  have HV : Hid (SRow w (.slice ad L.length cap) L) := hv
  have HS : Hid (StrS L) := hs
  have hcap : L.length ≤ cap ∧ cap ≤ 9223372036854775807 := hv.rowF.caps.2
  obtain ⟨w1, hw1⟩ : ∃ w1, w1 = w.alloc (.cells (sc a).toArray 35) := ⟨_, rfl⟩
  obtain ⟨B0, hB0⟩ : ∃ B0, B0 = w.heap.size := ⟨_, rfl⟩
  obtain ⟨i1, i2⟩ := box_new hw1 hB0
  have HB1 : Hid (Below w.heap.size w w1) := i1
  have HA : Hid (Blk w1 B0 35 (sc a)) := i2
  clear i1 i2 hv hs
  go_enter Tryz.func55, Tryz.ntmps55
  go_upto_region 1 with (refine wpList_okw rfl (exec_box24 (n := a) (.tmp 1) rfl rfl) ?_)
  rw [← hw1, ← hB0]
  clear hw1 hB0
  go_wp2
  go_loopw [9, 10] (fun i j wr => ∃ (m k : Nat), i = .int .i64 (m : Int) ∧ j = .int .i64 (k : Int) ∧ m ≤ k ∧ k ≤ L.length ∧ Hid (∀ p s, L[p]? = some s → p < m → ltP s.q.a a) ∧ Hid (∀ p s, L[p]? = some s → k ≤ p → ¬ ltP s.q.a a) ∧ Hid (Below w.heap.size w wr) ∧ Hid (Blk wr B0 35 (sc a))) (fun i j _ => (intOf j - intOf i).toNat)
  case atStart =>
    refine ⟨0, L.length, rfl, rfl, by omega, by omega, ?_, ?_, HB1, HA⟩
    · show ∀ p s, _; intro p s _ h; omega
    · show ∀ p s, _; intro p s hp h; have := (List.getElem?_eq_some_iff.1 hp).1; omega
  case round =>
    obtain ⟨m, k, rfl, rfl, hmk, hkl, HLO, HHI, HBr, HAr⟩ := hrel
    by_cases hlt : m < k
    · obtain ⟨h, hh⟩ : ∃ h, h = (m + k) / 2 := ⟨_, rfl⟩
      have hmI : (m : Int) < (k : Int) := by omega
      have hhI : wrap64 ((m : Int) + (k : Int)) = ((m + k : Nat) : Int) := by unfold wrap64; omega
      have hdiv : ((m : Int) + (k : Int)) / 2 = (h : Int) := by omega
      have hhL : (h : Int) < (L.length : Int) := by omega
      have hhk : h < k := by omega
      have hmh : m ≤ h := by omega
      obtain ⟨x, hx⟩ : ∃ x, L[h]? = some x := ⟨_, List.getElem?_eq_getElem (by omega)⟩
      obtain ⟨g, cap', hg⟩ := HV.out.someRow hx
      cases hg
      have hBr := HBr.out
      have HCL : Hid (∀ z : WIn (fun w' => Below wr.heap.size wr w'), z.w.rangeAt g (h * 21) (tc x) ∧ z.w.rangeAt B0 0 (sc a)) := fun z => ⟨(HV.out.below (bnext hBr z.ok)).load hx, Blk.range0 (HAr.out.below z.ok)⟩
      have HK : Hid (∀ w', Calls Tryz.prog 56 #[tv x, sv a] w' fun e w'' => e = .returned (.int .i64 (cmpS x.q.a a)) ∧ Below w'.heap.size w' w'') := fun w' => hc x w'
      obtain ⟨cz, hcz⟩ : ∃ cz, cz = cmpS x.q.a a := ⟨_, rfl⟩
      rw [← hcz] at HK
      have HX : Hid (L[h]? = some x) := hx
      clear hx hBr hc hh hhI
      by_cases hlo : ltP x.q.a a
      · have hneg : cz < 0 := by rw [hcz]; exact (cmpS_neg _ _).2 hlo
        have HLo : Hid (ltP x.q.a a) := hlo
        clear hcz hlo
        go_upto_region 5 with fail
        have ne : Nonempty (WIn (fun w' => Below wr.heap.size wr w')) := ⟨⟨wr.drew, below_drewn wr 1⟩⟩
        refine wp_region_ord (C := fun w' => ∃ z : WIn (fun w' => Below wr.heap.size wr w'), w' = z.w) [(false, 0), (false, 1), (false, 2), (false, 3), (false, 4), (false, 5), (true, 6), (false, 7)] (by kernel_rfl) (by kernel_rfl) ⟨⟨wr.drew, below_drewn wr 1⟩, rfl⟩ ?_
        iterate 4 (refine ord_still rfl rfl ?_; go_big_quiet_step (fail); refine wpQuiet_nil ?_)
        refine ord_still rfl rfl ?_
        refine quiet_ok1 rfl (fun w' hw' => by obtain ⟨z, rfl⟩ := hw'; exact exec_load76 (q := x) (.tmp 27) rfl rfl ((HCL.out z).1)) ?_
        go_simp
        refine ord_still rfl rfl ?_
        refine quiet_ok1 rfl (fun w' hw' => by obtain ⟨z, rfl⟩ := hw'; exact exec_load24n (n := a) (.tmp 4) rfl rfl ((HCL.out z).2)) ?_
        go_simp
        refine ord_mem rfl rfl ?_
        go_simp
        refine (HK.out _).mono ?_
        rintro r w3 ⟨rfl, hb⟩
        have HB3 : Hid (Below wr.heap.size wr w3) := bnext (below_drewn wr 1) hb
        clear hb
        refine ⟨⟨⟨w3, HB3.out⟩, rfl⟩, ?_⟩
        go_simp
        iterate 1 (refine ord_still rfl rfl ?_; go_big_quiet_step (fail); refine wpQuiet_nil ?_)
        refine ord_end ?_
        clear ne
        go_wp2
        go_roundw
        case rel => exact ⟨h + 1, k, by simp, rfl, by omega, hkl, fun p s hp hlt2 => by
            rcases Nat.lt_or_ge p h with h1 | h1
            · have := HX.out
              exact ltP_trans (str_at HS.out hp this h1) HLo.out
            · obtain rfl : p = h := by omega
              rw [HX.out] at hp; cases hp; exact HLo.out, HHI, bnext HBr.out HB3.out, HAr.out.below HB3.out⟩
        case measure => simp [intOf]; omega
      · have hneg : ¬ cz < 0 := by rw [hcz]; exact fun h => hlo ((cmpS_neg _ _).1 h)
        have HHi : Hid (¬ ltP x.q.a a) := hlo
        clear hcz hlo
        go_upto_region 5 with fail
        have ne : Nonempty (WIn (fun w' => Below wr.heap.size wr w')) := ⟨⟨wr.drew, below_drewn wr 1⟩⟩
        refine wp_region_ord (C := fun w' => ∃ z : WIn (fun w' => Below wr.heap.size wr w'), w' = z.w) [(false, 0), (false, 1), (false, 2), (false, 3), (false, 4), (false, 5), (true, 6), (false, 7)] (by kernel_rfl) (by kernel_rfl) ⟨⟨wr.drew, below_drewn wr 1⟩, rfl⟩ ?_
        iterate 4 (refine ord_still rfl rfl ?_; go_big_quiet_step (fail); refine wpQuiet_nil ?_)
        refine ord_still rfl rfl ?_
        refine quiet_ok1 rfl (fun w' hw' => by obtain ⟨z, rfl⟩ := hw'; exact exec_load76 (q := x) (.tmp 27) rfl rfl ((HCL.out z).1)) ?_
        go_simp
        refine ord_still rfl rfl ?_
        refine quiet_ok1 rfl (fun w' hw' => by obtain ⟨z, rfl⟩ := hw'; exact exec_load24n (n := a) (.tmp 4) rfl rfl ((HCL.out z).2)) ?_
        go_simp
        refine ord_mem rfl rfl ?_
        go_simp
        refine (HK.out _).mono ?_
        rintro r w3 ⟨rfl, hb⟩
        have HB3 : Hid (Below wr.heap.size wr w3) := bnext (below_drewn wr 1) hb
        clear hb
        refine ⟨⟨⟨w3, HB3.out⟩, rfl⟩, ?_⟩
        go_simp
        iterate 1 (refine ord_still rfl rfl ?_; go_big_quiet_step (fail); refine wpQuiet_nil ?_)
        refine ord_end ?_
        clear ne
        go_wp2
        go_roundw
        case rel => exact ⟨m, h, rfl, by simp, hmh, by omega, HLO, fun p s hp hle => by
            rcases Nat.lt_or_ge h p with h1 | h1
            · intro h2; exact HHi.out (ltP_trans (str_at HS.out HX.out hp h1) h2)
            · obtain rfl : p = h := by omega
              rw [HX.out] at hp; cases hp; exact HHi.out, bnext HBr.out HB3.out, HAr.out.below HB3.out⟩
        case measure => simp [intOf]; omega
    · obtain rfl : m = k := by omega
      have HCut : Hid (CutAt L (L.take m) (L.drop m) a) := ⟨(List.take_append_drop _ _).symm, lo_take HLO.out, hi_drop fun p s hp hle => HHI.out p s hp hle⟩
      clear HLO HHI hlt hmk
      by_cases hmL : m < L.length
      · have hmI : (m : Int) < (L.length : Int) := by omega
        obtain ⟨x, hx⟩ : ∃ x, L[m]? = some x := ⟨_, List.getElem?_eq_getElem (by omega)⟩
        obtain ⟨g, cap', hg⟩ := HV.out.someRow hx
        cases hg
        have hBr := HBr.out
        have HCL : Hid (∀ z : WIn (fun w' => Below wr.heap.size wr w'), z.w.rangeAt g (m * 21) (tc x) ∧ z.w.rangeAt B0 0 (sc a)) := fun z => ⟨(HV.out.below (bnext hBr z.ok)).load hx, Blk.range0 (HAr.out.below z.ok)⟩
        have HK : Hid (∀ w', Calls Tryz.prog 56 #[tv x, sv a] w' fun e w'' => e = .returned (.int .i64 (cmpS x.q.a a)) ∧ Below w'.heap.size w' w'') := fun w' => hc x w'
        obtain ⟨cz, hcz⟩ : ∃ cz, cz = cmpS x.q.a a := ⟨_, rfl⟩
        rw [← hcz] at HK
        have HHere : Hid (hereB (L.drop m) a = decide (x.q.a = a)) := here_at hx
        clear hx hBr hc
        by_cases heq : x.q.a = a
        · have hz : cz = 0 := by rw [hcz, heq]; exact (cmpS_zero _ _).2 rfl
          have HE : Hid (x.q.a = a) := heq
          subst hz
          clear hcz heq
          go_upto_region 8 with fail
          have ne : Nonempty (WIn (fun w' => Below wr.heap.size wr w')) := ⟨⟨wr.drew, below_drewn wr 1⟩⟩
          refine wp_region_ord (C := fun w' => ∃ z : WIn (fun w' => Below wr.heap.size wr w'), w' = z.w) [(false, 0), (false, 1), (false, 2), (false, 3), (false, 4), (false, 5), (false, 6), (false, 7), (false, 8), (false, 9), (false, 10), (true, 11), (false, 12), (false, 13), (false, 14), (false, 15)] (by kernel_rfl) (by kernel_rfl) ⟨⟨wr.drew, below_drewn wr 1⟩, rfl⟩ ?_
          iterate 9 (refine ord_still rfl rfl ?_; go_big_quiet_step (fail); refine wpQuiet_nil ?_)
          refine ord_still rfl rfl ?_
          refine quiet_ok1 rfl (fun w' hw' => by obtain ⟨z, rfl⟩ := hw'; exact exec_load76 (q := x) (.tmp 43) rfl rfl ((HCL.out z).1)) ?_
          go_simp
          refine ord_still rfl rfl ?_
          refine quiet_ok1 rfl (fun w' hw' => by obtain ⟨z, rfl⟩ := hw'; exact exec_load24n (n := a) (.tmp 4) rfl rfl ((HCL.out z).2)) ?_
          go_simp
          refine ord_mem rfl rfl ?_
          go_simp
          refine (HK.out _).mono ?_
          rintro r w3 ⟨rfl, hb⟩
          have HB3 : Hid (Below wr.heap.size wr w3) := bnext (below_drewn wr 1) hb
          clear hb
          refine ⟨⟨⟨w3, HB3.out⟩, rfl⟩, ?_⟩
          go_simp
          iterate 4 (refine ord_still rfl rfl ?_; go_big_quiet_step (fail); refine wpQuiet_nil ?_)
          refine ord_end ?_
          clear ne
          go_wp2
          go_ret2
          exact ⟨m, hkl, by rw [HHere.out, HE.out]; simp, HCut.out, bnext HBr.out HB3.out⟩
        · have hz : ¬ cz = 0 := fun h => heq ((cmpS_zero _ _).1 (hcz.symm.trans h))
          have HE : Hid (¬ x.q.a = a) := heq
          clear hcz heq
          go_upto_region 8 with fail
          have ne : Nonempty (WIn (fun w' => Below wr.heap.size wr w')) := ⟨⟨wr.drew, below_drewn wr 1⟩⟩
          refine wp_region_ord (C := fun w' => ∃ z : WIn (fun w' => Below wr.heap.size wr w'), w' = z.w) [(false, 0), (false, 1), (false, 2), (false, 3), (false, 4), (false, 5), (false, 6), (false, 7), (false, 8), (false, 9), (false, 10), (true, 11), (false, 12), (false, 13), (false, 14), (false, 15)] (by kernel_rfl) (by kernel_rfl) ⟨⟨wr.drew, below_drewn wr 1⟩, rfl⟩ ?_
          iterate 9 (refine ord_still rfl rfl ?_; go_big_quiet_step (fail); refine wpQuiet_nil ?_)
          refine ord_still rfl rfl ?_
          refine quiet_ok1 rfl (fun w' hw' => by obtain ⟨z, rfl⟩ := hw'; exact exec_load76 (q := x) (.tmp 43) rfl rfl ((HCL.out z).1)) ?_
          go_simp
          refine ord_still rfl rfl ?_
          refine quiet_ok1 rfl (fun w' hw' => by obtain ⟨z, rfl⟩ := hw'; exact exec_load24n (n := a) (.tmp 4) rfl rfl ((HCL.out z).2)) ?_
          go_simp
          refine ord_mem rfl rfl ?_
          go_simp
          refine (HK.out _).mono ?_
          rintro r w3 ⟨rfl, hb⟩
          have HB3 : Hid (Below wr.heap.size wr w3) := bnext (below_drewn wr 1) hb
          clear hb
          refine ⟨⟨⟨w3, HB3.out⟩, rfl⟩, ?_⟩
          go_simp
          iterate 4 (refine ord_still rfl rfl ?_; go_big_quiet_step (fail); refine wpQuiet_nil ?_)
          refine ord_end ?_
          clear ne
          go_wp2
          go_ret2
          exact ⟨m, hkl, by rw [HHere.out]; simp [HE.out, hz], HCut.out, bnext HBr.out HB3.out⟩
      · have hmI : ¬ (m : Int) < (L.length : Int) := by omega
        go_upto_region 8 with fail
        have ne : Nonempty (WIn (fun w' => Below wr.heap.size wr w')) := ⟨⟨wr.drew, below_drewn wr 1⟩⟩
        refine wp_region_ord (C := fun w' => ∃ z : WIn (fun w' => Below wr.heap.size wr w'), w' = z.w) [(false, 0), (false, 1), (false, 2), (false, 3), (false, 4), (false, 5), (false, 6), (false, 7), (false, 8), (false, 9), (false, 10), (false, 11), (false, 12), (false, 13), (false, 14), (false, 15)] (by kernel_rfl) (by kernel_rfl) ⟨⟨wr.drew, below_drewn wr 1⟩, rfl⟩ ?_
        iterate 16 (first | (refine ord_still rfl rfl ?_; go_big_quiet_step (fail); refine wpQuiet_nil ?_) | (refine ord_shut rfl rfl ?_; go_big_quiet_step (fail); refine wpQuiet_nil ?_))
        refine ord_end ?_
        clear ne
        go_wp2
        go_ret2
        refine ⟨m, hkl, ?_, HCut.out, HBr.out.trans ((below_drewn wr 1).mono HBr.out.size)⟩
        rw [show L.drop m = [] from List.drop_eq_nil_of_le (by omega)]
        rfl
end

section
set_option linter.unusedVariables false
set_option linter.unusedSimpArgs false
set_option synthInstance.maxSize 20000
set_option maxHeartbeats 2000000
set_option maxRecDepth 20000
open Go.RowKit Go.Maps
end

section
set_option linter.unusedVariables false
set_option linter.unusedSimpArgs false
set_option synthInstance.maxSize 20000
set_option maxHeartbeats 2000000
set_option maxRecDepth 20000
open Go.RowKit Go.Maps

theorem Blk.sets {b : Nat} {e : TypeId} : ∀ (us : List Value) (o : Nat) (w : World) (vs : List Value), Blk w b e vs → o + us.length ≤ vs.length → ∃ vs', Blk (w.setCells b o us) b e vs' ∧ vs'.length = vs.length ∧ vs'.take o = vs.take o ∧ w.grownBy (w.setCells b o us) (some b)
  | [], o, w, vs, h, _ => ⟨vs, h, rfl, rfl, grown_refl _ _⟩
  | u :: us, o, w, vs, h, hl => by
    simp only [List.length_cons] at hl
    obtain ⟨vs', h1, h2, h3, h4⟩ := Blk.sets us (o + 1) (w.setCell ⟨b, o, none⟩ u) (vs.set o u) (h.set o u) (by simp; omega)
    refine ⟨vs', h1, by simpa using h2, ?_, grown_trans (grown_setCell w b o u) h4 (fun k hk => .inl hk)⟩
    have e1 : vs'.take o = (vs'.take (o + 1)).take o := by rw [List.take_take, Nat.min_eq_left (by omega)]
    rw [e1, h3, List.take_take, Nat.min_eq_left (by omega), List.take_set_of_le (Nat.le_refl _)]
theorem zcells10 (n : Nat) : (Builtin.zeroCells (ov oz).cells n).toList.length = n * 10 ∧ ∀ v ∈ (Builtin.zeroCells (ov oz).cells n).toList, v.oneCell' = true := by
  refine ⟨by simp [Builtin.zeroCells, ov, oc, Value.cells], fun v hv => ?_⟩
  simp [Builtin.zeroCells, Value.cells, ov] at hv
  obtain ⟨i, hi, rfl⟩ := hv
  have h10 : i % 10 < (oc oz).length := by rw [oc_len]; exact Nat.mod_lt _ (by omega)
  have : (oc oz)[i % 10] ∈ oc oz := List.getElem_mem h10
  have := oc_one oz _ this
  have e : ((oc oz)[i % 10]?.getD default) = (oc oz)[i % 10] := by rw [List.getElem?_eq_getElem h10]; rfl
  rw [← e] at this
  simpa [oc_len] using this
theorem run_clear26 {w : World} {g N cap i n c : Nat} {l : List OpT} (h : Row w g N cap l) (hn : 0 < n) (hi : i + n = N) :
    ∃ w', (∀ ty, (Builtin.clear_ #[28] ty #[.slice (some ⟨g, i * 10, none⟩) n c]).run Tryz.prog w = .ok (.tuple #[]) w') ∧ Row w' g i cap (l.take i) ∧ w.grownBy w' (some g) := by
  have hzl := (zcells10 n).1
  have hz1 := (zcells10 n).2
  obtain ⟨hl, hx, hh⟩ := h
  rcases hh with ⟨e, _⟩ | ⟨g', cap', cur, e, h3, h4, h5, h6, h7, h8⟩
  · cases e
  · cases e
    have hb : Blk w g 38 cur.toList := by unfold Blk; simpa using h4
    have hlen : i * 10 + n * 10 ≤ cur.toList.length := by simp; omega
    have hcell : ∀ j, j < n * 10 → (w.cell? ⟨g, i * 10 + j, none⟩).isSome = true := fun j hj => by
      rw [hb.cell (i * 10 + j) _ (List.getElem?_eq_getElem (by omega))]
      rfl
    have hst := run_storeCells_cells (P := Tryz.prog) g (i * 10) _ 0 w (fun j hj => by rw [hzl] at hj; simpa using hcell j hj) (fun j hj => by simpa using hb.frozen (i * 10 + j)) hz1
    simp only [Nat.add_zero] at hst
    obtain ⟨vs', q1, q2, q3, q4⟩ := Blk.sets (Builtin.zeroCells (ov oz).cells n).toList (i * 10) w cur.toList hb (by rw [hzl]; exact hlen)
    obtain ⟨m, rfl⟩ : ∃ m, n = m + 1 := ⟨n - 1, by omega⟩
    refine ⟨_, fun ty => ?_, ⟨by rw [List.length_take]; omega, ?_, ?_⟩, q4⟩
    · have hzv : (zeroValue 38).run Tryz.prog w = .ok (ov oz) w := by
        obtain ⟨ii, hii, hzz, _, _⟩ := info_parts ty28.info
        simp [zeroValue, typeInfo, hii, hzz]
      simp [Builtin.clear_, run_underlying Tryz.underlying28, hzv, hst]
    · rw [flat_length oc_len, List.length_take]; omega
    · refine .inr ⟨g, cap, vs'.toArray, rfl, Nat.zero_le _, q1, by omega, h6, by simpa using q2.trans (by simpa using h7), ?_⟩
      rw [List.toList_toArray, q3]
      have e1 : cur.toList.take (i * 10) = (cur.toList.take (N * 10)).take (i * 10) := by rw [List.take_take, Nat.min_eq_left (by omega)]
      rw [e1, h8]
      have e2 : flat oc l = flat oc (l.take i) ++ flat oc (l.drop i) := by rw [← flat_append, List.take_append_drop]
      have e3 : (flat oc (l.take i)).length = i * 10 := by rw [flat_length oc_len, List.length_take]; omega
      rw [e2, ← e3, List.take_left]
/-- The first of each time, behind one of the time p. -/
def ddO (p : S) : List OpT → List OpT
  | [] => []
  | x :: r => if x.a = p then ddO p r else x :: ddO x.a r
def firstsO : List OpT → List OpT
  | [] => []
  | x :: r => x :: ddO x.a r
theorem ddO_same {x : OpT} {p : S} {r : List OpT} (h : x.a = p) : ddO p (x :: r) = ddO p r := by rw [ddO, if_pos h]
theorem ddO_other {x : OpT} {p : S} {r : List OpT} (h : ¬ x.a = p) : ddO p (x :: r) = x :: ddO x.a r := by rw [ddO, if_neg h]
theorem ddO_mem : ∀ (r : List OpT) (p : S) (s : OpT), s ∈ ddO p r → s ∈ r
  | [], p, s, h => by simp [ddO] at h
  | x :: r, p, s, h => by
    unfold ddO at h
    split at h
    · exact List.mem_cons_of_mem _ (ddO_mem r p s h)
    · rcases List.mem_cons.1 h with r1 | r1
      · rw [r1]; exact List.mem_cons_self
      · exact List.mem_cons_of_mem _ (ddO_mem r x.a s r1)
theorem firstsO_mem (l : List OpT) (s : OpT) (h : s ∈ firstsO l) : s ∈ l := by
  cases l with
  | nil => simp [firstsO] at h
  | cons x r =>
    rcases List.mem_cons.1 h with r1 | r1
    · rw [r1]; exact List.mem_cons_self
    · exact List.mem_cons_of_mem _ (ddO_mem r x.a s r1)
end

section
set_option linter.unusedVariables false
set_option linter.unusedSimpArgs false
set_option synthInstance.maxSize 20000
set_option maxHeartbeats 2000000
set_option maxRecDepth 20000
open Go.RowKit Go.Maps

theorem wpList_load26 {ops : Array Oper} {rest : List Oper} {o : Oper} {a : Act} {Q : Exit → Act → World → Prop} {w : World} {b off : Nat} {q : OpT} (hgd : o.guard = none) (x : Operand) (ho : o.op = .load 38 x) (hx : a.eval x = .pointer (some ⟨b, off, none⟩)) (hc : w.rangeAt b off (oc q))
    (h : wpList Tryz.prog ops Q rest (a.put o.dst (ov q)) w) : wpList Tryz.prog ops Q (o :: rest) a w := by
  have hrun := exec_load26 (r := a.eval) x ho hx hc
  refine wpList_plain hgd fun K hK => ?_
  exact wp_ok hrun (hK _ _ h)
theorem wpList_store26 {ops : Array Oper} {rest : List Oper} {o : Oper} {a : Act} {Q : Exit → Act → World → Prop} {w : World} {b off : Nat} {q : OpT} (hgd : o.guard = none) (x y : Operand) (ho : o.op = .store 38 x y) (hx : a.eval x = .pointer (some ⟨b, off, none⟩)) (hy : a.eval y = ov q) (ht : w.there b off 10)
    (h : wpList Tryz.prog ops Q rest (a.put o.dst undef) (w.setCells b off (oc q))) : wpList Tryz.prog ops Q (o :: rest) a w := by
  have hrun := exec_store26 (r := a.eval) x y ho hx hy ht
  refine wpList_plain hgd fun K hK => ?_
  exact wp_skip hrun (hK _ _ h)
end

section
set_option linter.unusedVariables false
set_option linter.unusedSimpArgs false
set_option synthInstance.maxSize 20000
set_option maxHeartbeats 2000000
set_option maxRecDepth 20000
open Go.RowKit Go.Maps
end

section
set_option linter.unusedVariables false
set_option linter.unusedSimpArgs false
set_option synthInstance.maxSize 20000
set_option maxHeartbeats 2000000
set_option maxRecDepth 20000
open Go.RowKit Go.Maps

structure RotS (p U V s : List OpT) (m i j : Nat) (p' U' V' s' : List OpT) : Prop where
  hi : U'.length = i
  hj : V'.length = j
  hm : p'.length + i = m
  same : p' ++ (V' ++ (U' ++ s')) = p ++ (V ++ (U ++ s))
end
end Go.Proofs.YthnjbjlhfohpfaaGreat
