/-
  symMerge of the library's stable sort, at operations.
-/
import Derived.Test.YthnjbjlhfohpfaaSy2
namespace Go.Proofs.Ythnjbjlhfohpfaa
set_option linter.unusedVariables false
set_option linter.unusedSimpArgs false
set_option synthInstance.maxSize 20000
set_option maxHeartbeats 2000000
set_option maxRecDepth 20000
open Go.RowKit Go.Maps

/-- The search of a merge: st not behind the cut, r not ahead of it; L: the row, n: what two places that are held against each other sum up to, less one. -/
structure Seek3 (L : List OpT) (n lo hi st r : Nat) : Prop where
  lo : st = lo ∨ ∃ e f, L[st - 1]? = some e ∧ L[n - st]? = some f ∧ LeO e f
  hi : r = hi ∨ ∃ e f, L[r]? = some e ∧ L[n - 1 - r]? = some f ∧ LtO f e
theorem mid_left {p x y s : List OpT} {t : Nat} (h1 : p.length ≤ t) (h2 : t < p.length + x.length) : (p ++ (x ++ (y ++ s)))[t]? = x[t - p.length]? := by
  rw [List.getElem?_append_right h1, List.getElem?_append_left (by omega)]
theorem mid_right {p x y s : List OpT} {t : Nat} (h1 : p.length + x.length ≤ t) (h2 : t < p.length + x.length + y.length) : (p ++ (x ++ (y ++ s)))[t]? = y[t - (p.length + x.length)]? := by
  rw [List.getElem?_append_right (by omega), List.getElem?_append_right (by omega), List.getElem?_append_left (by omega)]
  congr 1
  omega
theorem mem_take {x : List OpT} {k : Nat} {q : OpT} (h : q ∈ x.take k) : ∃ t, t < k ∧ x[t]? = some q := by
  obtain ⟨t, ht⟩ := List.mem_iff_getElem?.1 h
  rw [List.getElem?_take] at ht
  split at ht
  · exact ⟨t, by assumption, ht⟩
  · cases ht
theorem mem_drop {x : List OpT} {k : Nat} {q : OpT} (h : q ∈ x.drop k) : ∃ t, k ≤ t ∧ x[t]? = some q := by
  obtain ⟨t, ht⟩ := List.mem_iff_getElem?.1 h
  rw [List.getElem?_drop] at ht
  exact ⟨k + t, by omega, ht⟩
theorem seek3_parts {p x y s : List OpT} {a m b n lo hi st : Nat} (ha : a = p.length) (hm : m = a + x.length) (hb : b = m + y.length) (hx : SrtO x) (hy : SrtO y)
    (h : Seek3 (p ++ (x ++ (y ++ s))) n lo hi st st) (hlo : a ≤ lo) (hls : lo ≤ st) (hsh : st ≤ hi) (him : hi ≤ m) (hn : m + st ≤ n ∧ n ≤ b + st) (h1 : lo = a ∨ n = b + lo) (h2 : hi = m ∨ n = m + hi) :
    (∀ q ∈ x.take (st - a), ∀ t ∈ y.drop (n - st - m), LeO q t) ∧ (∀ q ∈ y.take (n - st - m), ∀ t ∈ x.drop (st - a), LtO q t) := by
  refine ⟨fun q hq t ht => ?_, fun q hq t ht => ?_⟩
  · obtain ⟨i, hi1, hi2⟩ := mem_take hq
    obtain ⟨j, hj1, hj2⟩ := mem_drop ht
    have hjl := (List.getElem?_eq_some_iff.1 hj2).1
    rcases h.lo with e | ⟨e, f, he, hf, hl⟩
    · rcases h1 with h1 | h1 <;> omega
    · rw [mid_left (by omega) (by omega)] at he
      rw [mid_right (by omega) (by omega)] at hf
      exact le_trans' (srt_last hx hi2 he (by omega)) (le_trans' hl (srt_last hy hf hj2 (by omega)))
  · obtain ⟨i, hi1, hi2⟩ := mem_take hq
    obtain ⟨j, hj1, hj2⟩ := mem_drop ht
    have hjl := (List.getElem?_eq_some_iff.1 hj2).1
    rcases h.hi with e | ⟨e, f, he, hf, hl⟩
    · rcases h2 with h2 | h2 <;> omega
    · rw [mid_left (by omega) (by omega)] at he
      rw [mid_right (by omega) (by omega)] at hf
      exact le_lt_trans (srt_last hy hi2 hf (by omega)) (lt_le_trans hl (srt_last hx he hj2 (by omega)))
theorem mrg_nilL {y : List OpT} (h : SrtO y) : MrgS [] y ([] ++ y) := ⟨h, Keep.refl _, by simp⟩
theorem mrg_nilR {x : List OpT} (h : SrtO x) : MrgS x [] (x ++ []) := ⟨by simpa using h, Keep.refl _, by simp⟩
/-- What a call of symMerge is asked for. -/
def SymAt (K : Nat) : Prop := ∀ {w : World} {g N cap a m b : Nat} {p x y s : List OpT}, Row w g N cap (p ++ (x ++ (y ++ s))) → a = p.length → m = a + x.length → b = m + y.length → SrtO x → SrtO y → 0 < x.length → 0 < y.length → N ≤ 1000000 → b - a ≤ K →
    Calls Try.prog 97 #[.slice (some ⟨g, 0, none⟩) N cap, .int .i64 (a : Int), .int .i64 (m : Int), .int .i64 (b : Int), .func (.func 68) #[] #[]] w fun e w' => e = .returned (.tuple #[]) ∧ ∃ z, MrgS x y z ∧ Row w' g N cap (p ++ (z ++ s)) ∧ w.grownBy w' (some g)
theorem sym91_3 {K : Nat} (ih : SymAt K) {w : World} {g N cap a m b : Nat} {p x y s : List OpT} (hr : Row w g N cap (p ++ (x ++ (y ++ s)))) (ha : a = p.length) (hm : m = a + x.length) (hb : b = m + y.length) (hx : SrtO x) (hy : SrtO y) (hlx : 2 ≤ x.length) (hly : 2 ≤ y.length) (hN : N ≤ 1000000) (hK : b - a ≤ K + 1) :
    Calls Try.prog 97 #[.slice (some ⟨g, 0, none⟩) N cap, .int .i64 (a : Int), .int .i64 (m : Int), .int .i64 (b : Int), .func (.func 68) #[] #[]] w fun e w' => e = .returned (.tuple #[]) ∧ ∃ z, MrgS x y z ∧ Row w' g N cap (p ++ (z ++ s)) ∧ w.grownBy w' (some g) := by
  have hlen := hr.1
  have hbN : b ≤ N := by simp at hlen; omega
  have hbN' : (b : Int) ≤ (N : Int) := by omega
  have hN' : (N : Int) ≤ 1000000 := by omega
  have q1 : (((m : Int) - (a : Int)) == 1) = false := by simp; omega
  have q2 : (((b : Int) - (m : Int)) == 1) = false := by simp; omega
  have q1' : ¬ ((m : Int) - (a : Int) = 1) := by omega
  have q2' : ¬ ((b : Int) - (m : Int) = 1) := by omega
  have ham : a < m := by omega
  have hmb : m < b := by omega
  have hbl : b ≤ N := hbN
  obtain ⟨mid, hmid⟩ : ∃ mid : Nat, ((a : Int) + (b : Int)) / 2 = (mid : Int) := ⟨(a + b) / 2, by omega⟩
  obtain ⟨n, hn⟩ : ∃ n : Nat, (mid : Int) + (m : Int) = (n : Int) := ⟨mid + m, by omega⟩
  obtain ⟨pp, hpp⟩ : ∃ pp : Nat, (n : Int) - 1 = (pp : Int) := ⟨n - 1, by omega⟩
  have HM : Hid (((a : Int) + (b : Int)) / 2 = (mid : Int) ∧ n = mid + m ∧ n = pp + 1) := ⟨hmid, by omega, by omega⟩
  have HR : Hid (Row w g N cap (p ++ (x ++ (y ++ s)))) := hr
  have HA : Hid (a = p.length ∧ m = a + x.length ∧ b = m + y.length) := ⟨ha, hm, hb⟩
  have HX : Hid (SrtO x) := hx
  have HY : Hid (SrtO y) := hy
  have HLL : Hid (2 ≤ x.length ∧ 2 ≤ y.length) := ⟨hlx, hly⟩
  have hn3 : (n : Int) ≤ 2000000 := by omega
  have hmidN : (mid : Int) ≤ 1000000 := by omega
  clear hr ha hm hb hlen hx hy hlx hly
  obtain ⟨lo, hlo⟩ : ∃ lo : Nat, lo = if mid < m then n - b else a := ⟨_, rfl⟩
  obtain ⟨hi, hhi⟩ : ∃ hi : Nat, hi = if mid < m then mid else m := ⟨_, rfl⟩
  have HLH : Hid (a ≤ lo ∧ lo ≤ hi ∧ hi ≤ m ∧ m + hi ≤ n ∧ n ≤ b + lo ∧ (lo = a ∨ n = b + lo) ∧ (hi = m ∨ n = m + hi)) := by
    have h0 := HM.out
    show _ ∧ _
    by_cases c : mid < m
    · rw [if_pos c] at hlo hhi
      omega
    · rw [if_neg c] at hlo hhi
      omega
  have HS0 : Hid (Seek3 (p ++ (x ++ (y ++ s))) n lo hi lo hi) := ⟨.inl rfl, .inl rfl⟩
  by_cases hmm : mid < m
  · have hmm' : (mid : Int) < (m : Int) := by omega
    rw [if_pos hmm] at hlo hhi
    have hlo' : (n : Int) - (b : Int) = (lo : Int) := by have := HM.out; omega
    have HLO : Hid (lo = n - b ∧ hi = mid) := ⟨hlo, hhi⟩
    have HS1 : Hid (Seek3 (p ++ (x ++ (y ++ s))) n lo hi lo mid) := by show Seek3 _ _ _ _ _ _; have := HS0.out; rw [hhi] at this ⊢; exact this
    clear hlo hhi
    go_enter Try.func97, Try.ntmps97
    go_wp2
    go_loopw [20, 21] (fun vi vj wr => ∃ (st r : Nat), vi = .int .i64 (st : Int) ∧ vj = .int .i64 (r : Int) ∧ lo ≤ st ∧ st ≤ r ∧ r ≤ hi ∧ Hid (Seek3 (p ++ (x ++ (y ++ s))) n lo hi st r) ∧ Hid (Below w.heap.size w wr)) (fun vi vj _ => (intOf vj).toNat - (intOf vi).toNat)
    case atStart => exact ⟨lo, mid, rfl, rfl, by have := HLO.out; omega, by have := HLO.out; have := HLH.out; omega, by have := HLO.out; omega, HS1, (show Below _ _ _ from Below.refl _ _)⟩
    case round =>
      obtain ⟨st, r, rfl, rfl, hls, hsr, hrh, HK1, HB⟩ := hrel
      by_cases hlt : st < r
      · have hlt' : (st : Int) < (r : Int) := by omega
        obtain ⟨c, hc⟩ : ∃ c : Nat, ((st : Int) + (r : Int)) / 2 = (c : Int) := ⟨(st + r) / 2, by omega⟩
        have c1 : st ≤ c := by omega
        have c2 : c < r := by omega
        have HLH0 := HLH.out
        have HM0 := HM.out
        have HA0 := HA.out
        have hcm : c < m := by omega
        have c3 : (c : Int) < (N : Int) := by omega
        have hstN : (st : Int) ≤ 1000000 := by omega
        have hrN : (r : Int) ≤ 1000000 := by omega
        obtain ⟨pc, hpc⟩ : ∃ pc : Nat, (pp : Int) - (c : Int) = (pc : Int) := ⟨pp - c, by omega⟩
        have p1 : m ≤ pc := by omega
        have p2 : pc < b := by omega
        have p3 : (pc : Int) < (N : Int) := by omega
        obtain ⟨e, he⟩ : ∃ e, x[c - p.length]? = some e := ⟨_, List.getElem?_eq_getElem (by omega)⟩
        obtain ⟨f, hf⟩ : ∃ f, y[pc - (p.length + x.length)]? = some f := ⟨_, List.getElem?_eq_getElem (by omega)⟩
        have heR : (p ++ (x ++ (y ++ s)))[c]? = some e := by rw [mid_left (by omega) (by omega)]; exact he
        have hfR : (p ++ (x ++ (y ++ s)))[pc]? = some f := by rw [mid_right (by omega) (by omega)]; exact hf
        have HCL : Hid (∀ z : WIn (fun w' => Below wr.heap.size wr w'), z.w.rangeAt g (pc * 10) (oc f) ∧ z.w.rangeAt g (c * 10) (oc e)) := fun z => by
          have R := (HR.out.below HB.out).below z.ok
          exact ⟨R.load hfR, R.load heR⟩
        have HK : Hid (∀ w' : World, Calls Try.prog 68 #[ov f, ov e] w' fun r w'' => r = .returned (.int .i64 (cmpS f.a e.a)) ∧ Below w'.heap.size w' w'') := fun w' => byAt50 f e w'
        have hcmp := cmpS_neg f.a e.a
        generalize hrr : cmpS f.a e.a = rr at HK hcmp
        have HE : Hid ((p ++ (x ++ (y ++ s)))[c]? = some e ∧ (p ++ (x ++ (y ++ s)))[pc]? = some f ∧ pc = n - 1 - c ∧ c < r ∧ c + 1 ≤ n) := ⟨heR, hfR, by omega, c2, by omega⟩
        have ne : Nonempty (WIn (fun w' => Below wr.heap.size wr w')) := ⟨⟨wr, Below.refl _ _⟩⟩
        clear hrr heR he hfR hf HLH0 HM0 HA0
        by_cases hl : LtO f e
        · have hneg : rr < 0 := hcmp.2 hl
          have hdd : decide (rr < 0) = true := decide_eq_true hneg
          have HS2 : Hid (Seek3 (p ++ (x ++ (y ++ s))) n lo hi st c) := ⟨HK1.out.lo, .inr ⟨e, f, HE.out.1, by rw [← HE.out.2.2.1]; exact HE.out.2.1, hl⟩⟩
          clear hcmp
          go_wp2_with fail
          refine wp_region_tree (C := fun w' => ∃ z : WIn (fun w' => Below wr.heap.size wr w'), w' = z.w) (.still 0 (.still 1 (.still 2 (.still 3 (.still 4 (.still 5 (.still 6 (.still 7 (.still 8 (.still 9 (.still 10 (.one 11 (.still 12 (.still 13 .done)))))))))))))) (by kernel_rfl) (by kernel_rfl) ⟨⟨wr.drew, below_drewn wr 1⟩, rfl⟩ ?_
          iterate 6 (refine tree_still rfl rfl ?_; go_big_quiet_step (fail); refine wpQuiet_nil ?_)
          refine tree_still rfl rfl ?_
          refine quiet_ok1 rfl (fun w' hw' => by obtain ⟨z, rfl⟩ := hw'; exact exec_load26 (q := f) (.tmp 163) rfl rfl (HCL.out z).1) ?_
          go_simp
          iterate 3 (refine tree_still rfl rfl ?_; go_big_quiet_step (fail); refine wpQuiet_nil ?_)
          refine tree_still rfl rfl ?_
          refine quiet_ok1 rfl (fun w' hw' => by obtain ⟨z, rfl⟩ := hw'; exact exec_load26 (q := e) (.tmp 167) rfl rfl (HCL.out z).2) ?_
          go_simp
          refine tree_one rfl rfl ?_
          go_simp
          refine (HK.out _).mono ?_
          rintro r w3 ⟨rfl, hb3⟩
          have HB3 : Hid (Below wr.heap.size wr w3) := bnext (below_drewn wr 1) hb3
          clear hb3
          refine ⟨⟨⟨w3, HB3.out⟩, rfl⟩, ?_⟩
          go_simp
          iterate 2 (refine tree_still rfl rfl ?_; go_big_quiet_step (fail); refine wpQuiet_nil ?_)
          refine tree_done ?_
          clear ne HCL HK
          go_wp2
          go_roundw
          case rel => exact ⟨st, c, rfl, rfl, hls, by omega, by omega, HS2, (show Below _ _ _ from bnext HB.out HB3.out)⟩
          case measure => simp [intOf] <;> omega
        · have hneg : ¬ rr < 0 := fun k => hl (hcmp.1 k)
          have hdd : decide (rr < 0) = false := decide_eq_false hneg
          have HS2 : Hid (Seek3 (p ++ (x ++ (y ++ s))) n lo hi (c + 1) r) := ⟨.inr ⟨e, f, HE.out.1, by rw [show n - (c + 1) = pc by have := HE.out.2.2.1; omega]; exact HE.out.2.1, hl⟩, HK1.out.hi⟩
          clear hcmp
          go_wp2_with fail
          refine wp_region_tree (C := fun w' => ∃ z : WIn (fun w' => Below wr.heap.size wr w'), w' = z.w) (.still 0 (.still 1 (.still 2 (.still 3 (.still 4 (.still 5 (.still 6 (.still 7 (.still 8 (.still 9 (.still 10 (.one 11 (.still 12 (.still 13 .done)))))))))))))) (by kernel_rfl) (by kernel_rfl) ⟨⟨wr.drew, below_drewn wr 1⟩, rfl⟩ ?_
          iterate 6 (refine tree_still rfl rfl ?_; go_big_quiet_step (fail); refine wpQuiet_nil ?_)
          refine tree_still rfl rfl ?_
          refine quiet_ok1 rfl (fun w' hw' => by obtain ⟨z, rfl⟩ := hw'; exact exec_load26 (q := f) (.tmp 163) rfl rfl (HCL.out z).1) ?_
          go_simp
          iterate 3 (refine tree_still rfl rfl ?_; go_big_quiet_step (fail); refine wpQuiet_nil ?_)
          refine tree_still rfl rfl ?_
          refine quiet_ok1 rfl (fun w' hw' => by obtain ⟨z, rfl⟩ := hw'; exact exec_load26 (q := e) (.tmp 167) rfl rfl (HCL.out z).2) ?_
          go_simp
          refine tree_one rfl rfl ?_
          go_simp
          refine (HK.out _).mono ?_
          rintro r w3 ⟨rfl, hb3⟩
          have HB3 : Hid (Below wr.heap.size wr w3) := bnext (below_drewn wr 1) hb3
          clear hb3
          refine ⟨⟨⟨w3, HB3.out⟩, rfl⟩, ?_⟩
          go_simp
          iterate 2 (refine tree_still rfl rfl ?_; go_big_quiet_step (fail); refine wpQuiet_nil ?_)
          refine tree_done ?_
          clear ne HCL HK
          go_wp2
          go_roundw
          case rel => exact ⟨c + 1, r, by go_num, rfl, by omega, by omega, hrh, HS2, (show Below _ _ _ from bnext HB.out HB3.out)⟩
          case measure => simp [intOf] <;> omega
      · obtain rfl : st = r := by omega
        have hlt' : ¬ (st : Int) < (st : Int) := by omega
        have HLH0 := HLH.out
        have HM0 := HM.out
        have HA0 := HA.out
        have HLL0 := HLL.out
        obtain ⟨en, hen⟩ : ∃ en : Nat, (n : Int) - (st : Int) = (en : Int) := ⟨n - st, by omega⟩
        have HP := seek3_parts HA0.1 HA0.2.1 HA0.2.2 HX.out HY.out HK1.out HLH0.1 hls hrh HLH0.2.2.1 (by omega) HLH0.2.2.2.2.2.1 HLH0.2.2.2.2.2.2
        rw [show n - st - m = en - m by omega] at HP
        obtain ⟨x1, hx1⟩ : ∃ x1, x1 = x.take (st - a) := ⟨_, rfl⟩
        obtain ⟨x2, hx2⟩ : ∃ x2, x2 = x.drop (st - a) := ⟨_, rfl⟩
        obtain ⟨y1, hy1⟩ : ∃ y1, y1 = y.take (en - m) := ⟨_, rfl⟩
        obtain ⟨y2, hy2⟩ : ∃ y2, y2 = y.drop (en - m) := ⟨_, rfl⟩
        rw [← hx1, ← hx2, ← hy1, ← hy2] at HP
        have lx1 : x1.length = st - a := by rw [hx1, List.length_take]; omega
        have lx2 : x2.length = m - st := by rw [hx2, List.length_drop]; omega
        have ly1 : y1.length = en - m := by rw [hy1, List.length_take]; omega
        have ly2 : y2.length = b - en := by rw [hy2, List.length_drop]; omega
        have ex : x = x1 ++ x2 := by rw [hx1, hx2, List.take_append_drop]
        have ey : y = y1 ++ y2 := by rw [hy1, hy2, List.take_append_drop]
        have hsx := HX.out
        have hsy := HY.out
        rw [ex] at hsx
        rw [ey] at hsy
        have HSX : Hid (SrtO x1 ∧ SrtO x2 ∧ SrtO (x1 ++ x2)) := ⟨(srt_append.1 hsx).1, (srt_append.1 hsx).2.1, hsx⟩
        have HSY : Hid (SrtO y1 ∧ SrtO y2 ∧ SrtO (y1 ++ y2)) := ⟨(srt_append.1 hsy).1, (srt_append.1 hsy).2.1, hsy⟩
        have HPP : Hid ((∀ q ∈ x1, ∀ t ∈ y2, LeO q t) ∧ (∀ q ∈ y1, ∀ t ∈ x2, LtO q t)) := HP
        have HR0 : Hid (Row wr g N cap ((p ++ x1) ++ (x2 ++ (y1 ++ (y2 ++ s))))) := by
          show Row _ _ _ _ _
          have := HR.out.below HB.out
          rw [ex, ey] at this
          simpa using this
        have HLN : Hid (x1.length = st - a ∧ x2.length = m - st ∧ y1.length = en - m ∧ y2.length = b - en ∧ x = x1 ++ x2 ∧ y = y1 ++ y2) := ⟨lx1, lx2, ly1, ly2, ex, ey⟩
        have HG0 : Hid (w.grownBy wr (some g)) := (show World.grownBy _ _ _ from ⟨HB.out.os, HB.out.tape, HB.out.output, HB.out.size, fun k hk _ => HB.out.block k hk⟩)
        have HNM : Hid (n = mid + m ∧ a ≤ st ∧ st ≤ m ∧ m ≤ en ∧ en ≤ b ∧ n = en + st ∧ 2 ≤ m - a ∧ 2 ≤ b - m ∧ a = p.length) := by show _ ∧ _; omega
        have d1 : st < m ↔ mid < en := by omega
        have d2 : m < en ↔ st < mid := by omega
        have g1 : (st : Int) ≤ 1000000 := by omega
        have g2 : (en : Int) ≤ 1000000 := by omega
        clear hx1 hx2 hy1 hy2 ex ey hsx hsy HP lx1 lx2 ly1 ly2 HLH0 HA0 HLL0 HM0
        by_cases X1 : a < st <;> by_cases X2 : st < m <;> by_cases Y1 : m < en <;> by_cases Y2 : en < b
        · have i1 : (a : Int) < (st : Int) := by omega
          have i2 : (st : Int) < (m : Int) := by omega
          have i3 : (m : Int) < (en : Int) := by omega
          have i4 : (en : Int) < (b : Int) := by omega
          have i5 : (st : Int) < (mid : Int) := by omega
          have i6 : (mid : Int) < (en : Int) := by omega
          clear d1 d2
          have HROT : Hid (Calls Try.prog 109 #[.slice (some ⟨g, 0, none⟩) N cap, .int .i64 (st : Int), .int .i64 (m : Int), .int .i64 (en : Int), .func (.func 68) #[] #[]] wr fun e w' => e = .returned (.tuple #[]) ∧ Row w' g N cap ((p ++ x1) ++ (y1 ++ (x2 ++ (y2 ++ s)))) ∧ wr.grownBy w' (some g)) := by
            have k1 := HLN.out; have k2 := HNM.out
            exact rotate100 HR0.out (by simp; omega) (by simp; omega) (by omega) (by omega) (by omega) hN
          go_upto_region 41 with (go_at_call 109; go_must (refine HROT.out.mono ?_; rintro r wA ⟨rfl, hRA, hGA⟩; have HRA0 : Hid (Row wA g N cap ((p ++ x1) ++ (y1 ++ (x2 ++ (y2 ++ s))))) := hRA; have HGA : Hid (w.grownBy wA (some g)) := grown_trans HG0.out hGA (fun k hk => .inl hk); clear hRA hGA))
          have HRA : Hid (Row wA g N cap (p ++ (x1 ++ (y1 ++ ((x2 ++ y2) ++ s))))) := by
            show Row _ _ _ _ _; have := HRA0.out; simpa using this
          have HS1 : Hid (Calls Try.prog 97 #[.slice (some ⟨g, 0, none⟩) N cap, .int .i64 (a : Int), .int .i64 (st : Int), .int .i64 (mid : Int), .func (.func 68) #[] #[]] wA fun e w' => e = .returned (.tuple #[]) ∧ ∃ z, MrgS x1 y1 z ∧ Row w' g N cap (p ++ (z ++ ((x2 ++ y2) ++ s))) ∧ wA.grownBy w' (some g)) := by
            have k1 := HLN.out; have k2 := HNM.out
            exact ih HRA.out (by omega) (by omega) (by omega) HSX.out.1 HSY.out.1 (by omega) (by omega) hN (by omega)
          go_upto_region 43 with (go_at_call 97; go_must (refine HS1.out.mono ?_; rintro r wB ⟨rfl, z1, hz1, hRB, hGB⟩; have HZ1 : Hid (MrgS x1 y1 z1) := hz1; have HRB : Hid (Row wB g N cap (p ++ (z1 ++ ((x2 ++ y2) ++ s)))) := hRB; have HGB : Hid (w.grownBy wB (some g)) := grown_trans HGA.out hGB (fun k hk => .inl hk); clear hz1 hRB hGB))
          all_goals
            have HS2 : Hid (Calls Try.prog 97 #[.slice (some ⟨g, 0, none⟩) N cap, .int .i64 (mid : Int), .int .i64 (en : Int), .int .i64 (b : Int), .func (.func 68) #[] #[]] wB fun e w' => e = .returned (.tuple #[]) ∧ ∃ z, MrgS x2 y2 z ∧ Row w' g N cap ((p ++ z1) ++ (z ++ s)) ∧ wB.grownBy w' (some g)) := by
              have k1 := HLN.out; have k2 := HNM.out; have k3 := HZ1.out.len
              refine ih (p := p ++ z1) (x := x2) (y := y2) (s := s) ?_ (by simp; omega) (by omega) (by omega) HSX.out.2.1 HSY.out.2.1 (by omega) (by omega) hN (by omega)
              have := HRB.out; simpa using this
            go_wp2_with (go_at_call 97; go_must (refine HS2.out.mono ?_; rintro r wC ⟨rfl, z2, hz2, hRC, hGC⟩; have HZ2 : Hid (MrgS x2 y2 z2) := hz2; have HRC : Hid (Row wC g N cap ((p ++ z1) ++ (z2 ++ s))) := hRC; have HGC : Hid (w.grownBy wC (some g)) := grown_trans HGB.out hGC (fun k hk => .inl hk); clear hz2 hRC hGC))
          all_goals
            have hh := halves HSX.out.2.2 HSY.out.2.2 HPP.out.1 HPP.out.2 HZ1.out.srt HZ1.out.keep HZ2.out.srt HZ2.out.keep
            have hR := HRC.out
            rw [List.append_assoc, ← List.append_assoc z1] at hR
            go_end0
            exact ⟨rfl, z1 ++ z2, ⟨hh.1, by rw [HLN.out.2.2.2.2.1, HLN.out.2.2.2.2.2]; exact hh.2, by have k1 := HLN.out; have k2 := HZ1.out.len; have k3 := HZ2.out.len; rw [k1.2.2.2.2.1, k1.2.2.2.2.2]; simp; omega⟩, hR, HGC.out⟩
        · have i1 : (a : Int) < (st : Int) := by omega
          have i2 : (st : Int) < (m : Int) := by omega
          have i3 : (m : Int) < (en : Int) := by omega
          have i4 : ¬ (en : Int) < (b : Int) := by omega
          have i5 : (st : Int) < (mid : Int) := by omega
          have i6 : (mid : Int) < (en : Int) := by omega
          have e_y2 : y2 = [] := List.eq_nil_of_length_eq_zero (by have := HLN.out.2.2.2.1; omega)
          clear d1 d2
          have HROT : Hid (Calls Try.prog 109 #[.slice (some ⟨g, 0, none⟩) N cap, .int .i64 (st : Int), .int .i64 (m : Int), .int .i64 (en : Int), .func (.func 68) #[] #[]] wr fun e w' => e = .returned (.tuple #[]) ∧ Row w' g N cap ((p ++ x1) ++ (y1 ++ (x2 ++ (y2 ++ s)))) ∧ wr.grownBy w' (some g)) := by
            have k1 := HLN.out; have k2 := HNM.out
            exact rotate100 HR0.out (by simp; omega) (by simp; omega) (by omega) (by omega) (by omega) hN
          go_upto_region 41 with (go_at_call 109; go_must (refine HROT.out.mono ?_; rintro r wA ⟨rfl, hRA, hGA⟩; have HRA0 : Hid (Row wA g N cap ((p ++ x1) ++ (y1 ++ (x2 ++ (y2 ++ s))))) := hRA; have HGA : Hid (w.grownBy wA (some g)) := grown_trans HG0.out hGA (fun k hk => .inl hk); clear hRA hGA))
          have HRA : Hid (Row wA g N cap (p ++ (x1 ++ (y1 ++ ((x2 ++ y2) ++ s))))) := by
            show Row _ _ _ _ _; have := HRA0.out; simpa using this
          have HS1 : Hid (Calls Try.prog 97 #[.slice (some ⟨g, 0, none⟩) N cap, .int .i64 (a : Int), .int .i64 (st : Int), .int .i64 (mid : Int), .func (.func 68) #[] #[]] wA fun e w' => e = .returned (.tuple #[]) ∧ ∃ z, MrgS x1 y1 z ∧ Row w' g N cap (p ++ (z ++ ((x2 ++ y2) ++ s))) ∧ wA.grownBy w' (some g)) := by
            have k1 := HLN.out; have k2 := HNM.out
            exact ih HRA.out (by omega) (by omega) (by omega) HSX.out.1 HSY.out.1 (by omega) (by omega) hN (by omega)
          go_upto_region 43 with (go_at_call 97; go_must (refine HS1.out.mono ?_; rintro r wB ⟨rfl, z1, hz1, hRB, hGB⟩; have HZ1 : Hid (MrgS x1 y1 z1) := hz1; have HRB : Hid (Row wB g N cap (p ++ (z1 ++ ((x2 ++ y2) ++ s)))) := hRB; have HGB : Hid (w.grownBy wB (some g)) := grown_trans HGA.out hGB (fun k hk => .inl hk); clear hz1 hRB hGB))
          all_goals
            go_wp2_with fail
          all_goals
            have HZ2 : Hid (MrgS x2 y2 (x2 ++ y2)) := by show MrgS _ _ _; rw [e_y2]; exact mrg_nilR HSX.out.2.1
            have HRC : Hid (Row wB g N cap ((p ++ z1) ++ ((x2 ++ y2) ++ s))) := by show Row _ _ _ _ _; have := HRB.out; simpa using this
            have HGC := HGB
            generalize x2 ++ y2 = z2 at HZ2 HRC
            have hh := halves HSX.out.2.2 HSY.out.2.2 HPP.out.1 HPP.out.2 HZ1.out.srt HZ1.out.keep HZ2.out.srt HZ2.out.keep
            have hR := HRC.out
            rw [List.append_assoc, ← List.append_assoc z1] at hR
            go_end0
            exact ⟨rfl, z1 ++ z2, ⟨hh.1, by rw [HLN.out.2.2.2.2.1, HLN.out.2.2.2.2.2]; exact hh.2, by have k1 := HLN.out; have k2 := HZ1.out.len; have k3 := HZ2.out.len; rw [k1.2.2.2.2.1, k1.2.2.2.2.2]; simp; omega⟩, hR, HGC.out⟩
        · have i1 : (a : Int) < (st : Int) := by omega
          have i2 : (st : Int) < (m : Int) := by omega
          have i3 : ¬ (m : Int) < (en : Int) := by omega
          have i4 : (en : Int) < (b : Int) := by omega
          have i5 : ¬ (st : Int) < (mid : Int) := by omega
          have i6 : (mid : Int) < (en : Int) := by omega
          have e_y1 : y1 = [] := List.eq_nil_of_length_eq_zero (by have := HLN.out.2.2.1; omega)
          clear d1 d2
          go_upto_region 41 with fail
          have HRA : Hid (Row wr g N cap (p ++ (x1 ++ (y1 ++ ((x2 ++ y2) ++ s))))) := by
            show Row _ _ _ _ _; have := HR0.out; rw [e_y1] at this ⊢; simpa using this
          have HGA := HG0
          go_upto_region 43 with fail
          all_goals
            have HZ1 : Hid (MrgS x1 y1 (x1 ++ y1)) := by show MrgS _ _ _; rw [e_y1]; exact mrg_nilR HSX.out.1
            have HRB : Hid (Row wr g N cap (p ++ ((x1 ++ y1) ++ ((x2 ++ y2) ++ s)))) := by show Row _ _ _ _ _; have := HRA.out; simpa using this
            have HGB := HGA
            generalize x1 ++ y1 = z1 at HZ1 HRB
            have HS2 : Hid (Calls Try.prog 97 #[.slice (some ⟨g, 0, none⟩) N cap, .int .i64 (mid : Int), .int .i64 (en : Int), .int .i64 (b : Int), .func (.func 68) #[] #[]] wr fun e w' => e = .returned (.tuple #[]) ∧ ∃ z, MrgS x2 y2 z ∧ Row w' g N cap ((p ++ z1) ++ (z ++ s)) ∧ wr.grownBy w' (some g)) := by
              have k1 := HLN.out; have k2 := HNM.out; have k3 := HZ1.out.len
              refine ih (p := p ++ z1) (x := x2) (y := y2) (s := s) ?_ (by simp; omega) (by omega) (by omega) HSX.out.2.1 HSY.out.2.1 (by omega) (by omega) hN (by omega)
              have := HRB.out; simpa using this
            go_wp2_with (go_at_call 97; go_must (refine HS2.out.mono ?_; rintro r wC ⟨rfl, z2, hz2, hRC, hGC⟩; have HZ2 : Hid (MrgS x2 y2 z2) := hz2; have HRC : Hid (Row wC g N cap ((p ++ z1) ++ (z2 ++ s))) := hRC; have HGC : Hid (w.grownBy wC (some g)) := grown_trans HGB.out hGC (fun k hk => .inl hk); clear hz2 hRC hGC))
          all_goals
            have hh := halves HSX.out.2.2 HSY.out.2.2 HPP.out.1 HPP.out.2 HZ1.out.srt HZ1.out.keep HZ2.out.srt HZ2.out.keep
            have hR := HRC.out
            rw [List.append_assoc, ← List.append_assoc z1] at hR
            go_end0
            exact ⟨rfl, z1 ++ z2, ⟨hh.1, by rw [HLN.out.2.2.2.2.1, HLN.out.2.2.2.2.2]; exact hh.2, by have k1 := HLN.out; have k2 := HZ1.out.len; have k3 := HZ2.out.len; rw [k1.2.2.2.2.1, k1.2.2.2.2.2]; simp; omega⟩, hR, HGC.out⟩
        · exact absurd HNM.out (by omega)
        · have i1 : (a : Int) < (st : Int) := by omega
          have i2 : ¬ (st : Int) < (m : Int) := by omega
          have i3 : (m : Int) < (en : Int) := by omega
          have i4 : (en : Int) < (b : Int) := by omega
          have i5 : (st : Int) < (mid : Int) := by omega
          have i6 : ¬ (mid : Int) < (en : Int) := by omega
          have e_x2 : x2 = [] := List.eq_nil_of_length_eq_zero (by have := HLN.out.2.1; omega)
          clear d1 d2
          go_upto_region 41 with fail
          have HRA : Hid (Row wr g N cap (p ++ (x1 ++ (y1 ++ ((x2 ++ y2) ++ s))))) := by
            show Row _ _ _ _ _; have := HR0.out; rw [e_x2] at this ⊢; simpa using this
          have HGA := HG0
          have HS1 : Hid (Calls Try.prog 97 #[.slice (some ⟨g, 0, none⟩) N cap, .int .i64 (a : Int), .int .i64 (st : Int), .int .i64 (mid : Int), .func (.func 68) #[] #[]] wr fun e w' => e = .returned (.tuple #[]) ∧ ∃ z, MrgS x1 y1 z ∧ Row w' g N cap (p ++ (z ++ ((x2 ++ y2) ++ s))) ∧ wr.grownBy w' (some g)) := by
            have k1 := HLN.out; have k2 := HNM.out
            exact ih HRA.out (by omega) (by omega) (by omega) HSX.out.1 HSY.out.1 (by omega) (by omega) hN (by omega)
          go_upto_region 43 with (go_at_call 97; go_must (refine HS1.out.mono ?_; rintro r wB ⟨rfl, z1, hz1, hRB, hGB⟩; have HZ1 : Hid (MrgS x1 y1 z1) := hz1; have HRB : Hid (Row wB g N cap (p ++ (z1 ++ ((x2 ++ y2) ++ s)))) := hRB; have HGB : Hid (w.grownBy wB (some g)) := grown_trans HGA.out hGB (fun k hk => .inl hk); clear hz1 hRB hGB))
          all_goals
            go_wp2_with fail
          all_goals
            have HZ2 : Hid (MrgS x2 y2 (x2 ++ y2)) := by show MrgS _ _ _; rw [e_x2]; exact mrg_nilL HSY.out.2.1
            have HRC : Hid (Row wB g N cap ((p ++ z1) ++ ((x2 ++ y2) ++ s))) := by show Row _ _ _ _ _; have := HRB.out; simpa using this
            have HGC := HGB
            generalize x2 ++ y2 = z2 at HZ2 HRC
            have hh := halves HSX.out.2.2 HSY.out.2.2 HPP.out.1 HPP.out.2 HZ1.out.srt HZ1.out.keep HZ2.out.srt HZ2.out.keep
            have hR := HRC.out
            rw [List.append_assoc, ← List.append_assoc z1] at hR
            go_end0
            exact ⟨rfl, z1 ++ z2, ⟨hh.1, by rw [HLN.out.2.2.2.2.1, HLN.out.2.2.2.2.2]; exact hh.2, by have k1 := HLN.out; have k2 := HZ1.out.len; have k3 := HZ2.out.len; rw [k1.2.2.2.2.1, k1.2.2.2.2.2]; simp; omega⟩, hR, HGC.out⟩
        · have i1 : (a : Int) < (st : Int) := by omega
          have i2 : ¬ (st : Int) < (m : Int) := by omega
          have i3 : (m : Int) < (en : Int) := by omega
          have i4 : ¬ (en : Int) < (b : Int) := by omega
          have i5 : (st : Int) < (mid : Int) := by omega
          have i6 : ¬ (mid : Int) < (en : Int) := by omega
          have e_x2 : x2 = [] := List.eq_nil_of_length_eq_zero (by have := HLN.out.2.1; omega)
          have e_y2 : y2 = [] := List.eq_nil_of_length_eq_zero (by have := HLN.out.2.2.2.1; omega)
          clear d1 d2
          go_upto_region 41 with fail
          have HRA : Hid (Row wr g N cap (p ++ (x1 ++ (y1 ++ ((x2 ++ y2) ++ s))))) := by
            show Row _ _ _ _ _; have := HR0.out; rw [e_x2] at this ⊢; simpa using this
          have HGA := HG0
          have HS1 : Hid (Calls Try.prog 97 #[.slice (some ⟨g, 0, none⟩) N cap, .int .i64 (a : Int), .int .i64 (st : Int), .int .i64 (mid : Int), .func (.func 68) #[] #[]] wr fun e w' => e = .returned (.tuple #[]) ∧ ∃ z, MrgS x1 y1 z ∧ Row w' g N cap (p ++ (z ++ ((x2 ++ y2) ++ s))) ∧ wr.grownBy w' (some g)) := by
            have k1 := HLN.out; have k2 := HNM.out
            exact ih HRA.out (by omega) (by omega) (by omega) HSX.out.1 HSY.out.1 (by omega) (by omega) hN (by omega)
          go_upto_region 43 with (go_at_call 97; go_must (refine HS1.out.mono ?_; rintro r wB ⟨rfl, z1, hz1, hRB, hGB⟩; have HZ1 : Hid (MrgS x1 y1 z1) := hz1; have HRB : Hid (Row wB g N cap (p ++ (z1 ++ ((x2 ++ y2) ++ s)))) := hRB; have HGB : Hid (w.grownBy wB (some g)) := grown_trans HGA.out hGB (fun k hk => .inl hk); clear hz1 hRB hGB))
          all_goals
            go_wp2_with fail
          all_goals
            have HZ2 : Hid (MrgS x2 y2 (x2 ++ y2)) := by show MrgS _ _ _; rw [e_x2]; exact mrg_nilL HSY.out.2.1
            have HRC : Hid (Row wB g N cap ((p ++ z1) ++ ((x2 ++ y2) ++ s))) := by show Row _ _ _ _ _; have := HRB.out; simpa using this
            have HGC := HGB
            generalize x2 ++ y2 = z2 at HZ2 HRC
            have hh := halves HSX.out.2.2 HSY.out.2.2 HPP.out.1 HPP.out.2 HZ1.out.srt HZ1.out.keep HZ2.out.srt HZ2.out.keep
            have hR := HRC.out
            rw [List.append_assoc, ← List.append_assoc z1] at hR
            go_end0
            exact ⟨rfl, z1 ++ z2, ⟨hh.1, by rw [HLN.out.2.2.2.2.1, HLN.out.2.2.2.2.2]; exact hh.2, by have k1 := HLN.out; have k2 := HZ1.out.len; have k3 := HZ2.out.len; rw [k1.2.2.2.2.1, k1.2.2.2.2.2]; simp; omega⟩, hR, HGC.out⟩
        · have i1 : (a : Int) < (st : Int) := by omega
          have i2 : ¬ (st : Int) < (m : Int) := by omega
          have i3 : ¬ (m : Int) < (en : Int) := by omega
          have i4 : (en : Int) < (b : Int) := by omega
          have i5 : ¬ (st : Int) < (mid : Int) := by omega
          have i6 : ¬ (mid : Int) < (en : Int) := by omega
          have e_x2 : x2 = [] := List.eq_nil_of_length_eq_zero (by have := HLN.out.2.1; omega)
          have e_y1 : y1 = [] := List.eq_nil_of_length_eq_zero (by have := HLN.out.2.2.1; omega)
          clear d1 d2
          go_upto_region 41 with fail
          have HRA : Hid (Row wr g N cap (p ++ (x1 ++ (y1 ++ ((x2 ++ y2) ++ s))))) := by
            show Row _ _ _ _ _; have := HR0.out; rw [e_x2] at this ⊢; simpa using this
          have HGA := HG0
          go_upto_region 43 with fail
          all_goals
            have HZ1 : Hid (MrgS x1 y1 (x1 ++ y1)) := by show MrgS _ _ _; rw [e_y1]; exact mrg_nilR HSX.out.1
            have HRB : Hid (Row wr g N cap (p ++ ((x1 ++ y1) ++ ((x2 ++ y2) ++ s)))) := by show Row _ _ _ _ _; have := HRA.out; simpa using this
            have HGB := HGA
            generalize x1 ++ y1 = z1 at HZ1 HRB
            go_wp2_with fail
          all_goals
            have HZ2 : Hid (MrgS x2 y2 (x2 ++ y2)) := by show MrgS _ _ _; rw [e_x2]; exact mrg_nilL HSY.out.2.1
            have HRC : Hid (Row wr g N cap ((p ++ z1) ++ ((x2 ++ y2) ++ s))) := by show Row _ _ _ _ _; have := HRB.out; simpa using this
            have HGC := HGB
            generalize x2 ++ y2 = z2 at HZ2 HRC
            have hh := halves HSX.out.2.2 HSY.out.2.2 HPP.out.1 HPP.out.2 HZ1.out.srt HZ1.out.keep HZ2.out.srt HZ2.out.keep
            have hR := HRC.out
            rw [List.append_assoc, ← List.append_assoc z1] at hR
            go_end0
            exact ⟨rfl, z1 ++ z2, ⟨hh.1, by rw [HLN.out.2.2.2.2.1, HLN.out.2.2.2.2.2]; exact hh.2, by have k1 := HLN.out; have k2 := HZ1.out.len; have k3 := HZ2.out.len; rw [k1.2.2.2.2.1, k1.2.2.2.2.2]; simp; omega⟩, hR, HGC.out⟩
        · exact absurd HNM.out (by omega)
        · have i1 : ¬ (a : Int) < (st : Int) := by omega
          have i2 : (st : Int) < (m : Int) := by omega
          have i3 : (m : Int) < (en : Int) := by omega
          have i4 : (en : Int) < (b : Int) := by omega
          have i5 : (st : Int) < (mid : Int) := by omega
          have i6 : (mid : Int) < (en : Int) := by omega
          have e_x1 : x1 = [] := List.eq_nil_of_length_eq_zero (by have := HLN.out.1; omega)
          clear d1 d2
          have HROT : Hid (Calls Try.prog 109 #[.slice (some ⟨g, 0, none⟩) N cap, .int .i64 (st : Int), .int .i64 (m : Int), .int .i64 (en : Int), .func (.func 68) #[] #[]] wr fun e w' => e = .returned (.tuple #[]) ∧ Row w' g N cap ((p ++ x1) ++ (y1 ++ (x2 ++ (y2 ++ s)))) ∧ wr.grownBy w' (some g)) := by
            have k1 := HLN.out; have k2 := HNM.out
            exact rotate100 HR0.out (by simp; omega) (by simp; omega) (by omega) (by omega) (by omega) hN
          go_upto_region 41 with (go_at_call 109; go_must (refine HROT.out.mono ?_; rintro r wA ⟨rfl, hRA, hGA⟩; have HRA0 : Hid (Row wA g N cap ((p ++ x1) ++ (y1 ++ (x2 ++ (y2 ++ s))))) := hRA; have HGA : Hid (w.grownBy wA (some g)) := grown_trans HG0.out hGA (fun k hk => .inl hk); clear hRA hGA))
          have HRA : Hid (Row wA g N cap (p ++ (x1 ++ (y1 ++ ((x2 ++ y2) ++ s))))) := by
            show Row _ _ _ _ _; have := HRA0.out; simpa using this
          go_upto_region 43 with fail
          all_goals
            have HZ1 : Hid (MrgS x1 y1 (x1 ++ y1)) := by show MrgS _ _ _; rw [e_x1]; exact mrg_nilL HSY.out.1
            have HRB : Hid (Row wA g N cap (p ++ ((x1 ++ y1) ++ ((x2 ++ y2) ++ s)))) := by show Row _ _ _ _ _; have := HRA.out; simpa using this
            have HGB := HGA
            generalize x1 ++ y1 = z1 at HZ1 HRB
            have HS2 : Hid (Calls Try.prog 97 #[.slice (some ⟨g, 0, none⟩) N cap, .int .i64 (mid : Int), .int .i64 (en : Int), .int .i64 (b : Int), .func (.func 68) #[] #[]] wA fun e w' => e = .returned (.tuple #[]) ∧ ∃ z, MrgS x2 y2 z ∧ Row w' g N cap ((p ++ z1) ++ (z ++ s)) ∧ wA.grownBy w' (some g)) := by
              have k1 := HLN.out; have k2 := HNM.out; have k3 := HZ1.out.len
              refine ih (p := p ++ z1) (x := x2) (y := y2) (s := s) ?_ (by simp; omega) (by omega) (by omega) HSX.out.2.1 HSY.out.2.1 (by omega) (by omega) hN (by omega)
              have := HRB.out; simpa using this
            go_wp2_with (go_at_call 97; go_must (refine HS2.out.mono ?_; rintro r wC ⟨rfl, z2, hz2, hRC, hGC⟩; have HZ2 : Hid (MrgS x2 y2 z2) := hz2; have HRC : Hid (Row wC g N cap ((p ++ z1) ++ (z2 ++ s))) := hRC; have HGC : Hid (w.grownBy wC (some g)) := grown_trans HGB.out hGC (fun k hk => .inl hk); clear hz2 hRC hGC))
          all_goals
            have hh := halves HSX.out.2.2 HSY.out.2.2 HPP.out.1 HPP.out.2 HZ1.out.srt HZ1.out.keep HZ2.out.srt HZ2.out.keep
            have hR := HRC.out
            rw [List.append_assoc, ← List.append_assoc z1] at hR
            go_end0
            exact ⟨rfl, z1 ++ z2, ⟨hh.1, by rw [HLN.out.2.2.2.2.1, HLN.out.2.2.2.2.2]; exact hh.2, by have k1 := HLN.out; have k2 := HZ1.out.len; have k3 := HZ2.out.len; rw [k1.2.2.2.2.1, k1.2.2.2.2.2]; simp; omega⟩, hR, HGC.out⟩
        · have i1 : ¬ (a : Int) < (st : Int) := by omega
          have i2 : (st : Int) < (m : Int) := by omega
          have i3 : (m : Int) < (en : Int) := by omega
          have i4 : ¬ (en : Int) < (b : Int) := by omega
          have i5 : (st : Int) < (mid : Int) := by omega
          have i6 : (mid : Int) < (en : Int) := by omega
          have e_x1 : x1 = [] := List.eq_nil_of_length_eq_zero (by have := HLN.out.1; omega)
          have e_y2 : y2 = [] := List.eq_nil_of_length_eq_zero (by have := HLN.out.2.2.2.1; omega)
          clear d1 d2
          have HROT : Hid (Calls Try.prog 109 #[.slice (some ⟨g, 0, none⟩) N cap, .int .i64 (st : Int), .int .i64 (m : Int), .int .i64 (en : Int), .func (.func 68) #[] #[]] wr fun e w' => e = .returned (.tuple #[]) ∧ Row w' g N cap ((p ++ x1) ++ (y1 ++ (x2 ++ (y2 ++ s)))) ∧ wr.grownBy w' (some g)) := by
            have k1 := HLN.out; have k2 := HNM.out
            exact rotate100 HR0.out (by simp; omega) (by simp; omega) (by omega) (by omega) (by omega) hN
          go_upto_region 41 with (go_at_call 109; go_must (refine HROT.out.mono ?_; rintro r wA ⟨rfl, hRA, hGA⟩; have HRA0 : Hid (Row wA g N cap ((p ++ x1) ++ (y1 ++ (x2 ++ (y2 ++ s))))) := hRA; have HGA : Hid (w.grownBy wA (some g)) := grown_trans HG0.out hGA (fun k hk => .inl hk); clear hRA hGA))
          have HRA : Hid (Row wA g N cap (p ++ (x1 ++ (y1 ++ ((x2 ++ y2) ++ s))))) := by
            show Row _ _ _ _ _; have := HRA0.out; simpa using this
          go_upto_region 43 with fail
          all_goals
            have HZ1 : Hid (MrgS x1 y1 (x1 ++ y1)) := by show MrgS _ _ _; rw [e_x1]; exact mrg_nilL HSY.out.1
            have HRB : Hid (Row wA g N cap (p ++ ((x1 ++ y1) ++ ((x2 ++ y2) ++ s)))) := by show Row _ _ _ _ _; have := HRA.out; simpa using this
            have HGB := HGA
            generalize x1 ++ y1 = z1 at HZ1 HRB
            go_wp2_with fail
          all_goals
            have HZ2 : Hid (MrgS x2 y2 (x2 ++ y2)) := by show MrgS _ _ _; rw [e_y2]; exact mrg_nilR HSX.out.2.1
            have HRC : Hid (Row wA g N cap ((p ++ z1) ++ ((x2 ++ y2) ++ s))) := by show Row _ _ _ _ _; have := HRB.out; simpa using this
            have HGC := HGB
            generalize x2 ++ y2 = z2 at HZ2 HRC
            have hh := halves HSX.out.2.2 HSY.out.2.2 HPP.out.1 HPP.out.2 HZ1.out.srt HZ1.out.keep HZ2.out.srt HZ2.out.keep
            have hR := HRC.out
            rw [List.append_assoc, ← List.append_assoc z1] at hR
            go_end0
            exact ⟨rfl, z1 ++ z2, ⟨hh.1, by rw [HLN.out.2.2.2.2.1, HLN.out.2.2.2.2.2]; exact hh.2, by have k1 := HLN.out; have k2 := HZ1.out.len; have k3 := HZ2.out.len; rw [k1.2.2.2.2.1, k1.2.2.2.2.2]; simp; omega⟩, hR, HGC.out⟩
        · have i1 : ¬ (a : Int) < (st : Int) := by omega
          have i2 : (st : Int) < (m : Int) := by omega
          have i3 : ¬ (m : Int) < (en : Int) := by omega
          have i4 : (en : Int) < (b : Int) := by omega
          have i5 : ¬ (st : Int) < (mid : Int) := by omega
          have i6 : (mid : Int) < (en : Int) := by omega
          have e_x1 : x1 = [] := List.eq_nil_of_length_eq_zero (by have := HLN.out.1; omega)
          have e_y1 : y1 = [] := List.eq_nil_of_length_eq_zero (by have := HLN.out.2.2.1; omega)
          clear d1 d2
          go_upto_region 41 with fail
          have HRA : Hid (Row wr g N cap (p ++ (x1 ++ (y1 ++ ((x2 ++ y2) ++ s))))) := by
            show Row _ _ _ _ _; have := HR0.out; rw [e_y1] at this ⊢; simpa using this
          have HGA := HG0
          go_upto_region 43 with fail
          all_goals
            have HZ1 : Hid (MrgS x1 y1 (x1 ++ y1)) := by show MrgS _ _ _; rw [e_x1]; exact mrg_nilL HSY.out.1
            have HRB : Hid (Row wr g N cap (p ++ ((x1 ++ y1) ++ ((x2 ++ y2) ++ s)))) := by show Row _ _ _ _ _; have := HRA.out; simpa using this
            have HGB := HGA
            generalize x1 ++ y1 = z1 at HZ1 HRB
            have HS2 : Hid (Calls Try.prog 97 #[.slice (some ⟨g, 0, none⟩) N cap, .int .i64 (mid : Int), .int .i64 (en : Int), .int .i64 (b : Int), .func (.func 68) #[] #[]] wr fun e w' => e = .returned (.tuple #[]) ∧ ∃ z, MrgS x2 y2 z ∧ Row w' g N cap ((p ++ z1) ++ (z ++ s)) ∧ wr.grownBy w' (some g)) := by
              have k1 := HLN.out; have k2 := HNM.out; have k3 := HZ1.out.len
              refine ih (p := p ++ z1) (x := x2) (y := y2) (s := s) ?_ (by simp; omega) (by omega) (by omega) HSX.out.2.1 HSY.out.2.1 (by omega) (by omega) hN (by omega)
              have := HRB.out; simpa using this
            go_wp2_with (go_at_call 97; go_must (refine HS2.out.mono ?_; rintro r wC ⟨rfl, z2, hz2, hRC, hGC⟩; have HZ2 : Hid (MrgS x2 y2 z2) := hz2; have HRC : Hid (Row wC g N cap ((p ++ z1) ++ (z2 ++ s))) := hRC; have HGC : Hid (w.grownBy wC (some g)) := grown_trans HGB.out hGC (fun k hk => .inl hk); clear hz2 hRC hGC))
          all_goals
            have hh := halves HSX.out.2.2 HSY.out.2.2 HPP.out.1 HPP.out.2 HZ1.out.srt HZ1.out.keep HZ2.out.srt HZ2.out.keep
            have hR := HRC.out
            rw [List.append_assoc, ← List.append_assoc z1] at hR
            go_end0
            exact ⟨rfl, z1 ++ z2, ⟨hh.1, by rw [HLN.out.2.2.2.2.1, HLN.out.2.2.2.2.2]; exact hh.2, by have k1 := HLN.out; have k2 := HZ1.out.len; have k3 := HZ2.out.len; rw [k1.2.2.2.2.1, k1.2.2.2.2.2]; simp; omega⟩, hR, HGC.out⟩
        · exact absurd HNM.out (by omega)
        · exact absurd HNM.out (by omega)
        · exact absurd HNM.out (by omega)
        · exact absurd HNM.out (by omega)
        · exact absurd HNM.out (by omega)
  · have hmm' : ¬ (mid : Int) < (m : Int) := by omega
    rw [if_neg hmm] at hlo hhi
    have HLO : Hid (lo = a ∧ hi = m) := ⟨hlo, hhi⟩
    have HS1 : Hid (Seek3 (p ++ (x ++ (y ++ s))) n lo hi a m) := by show Seek3 _ _ _ _ _ _; have := HS0.out; rw [hhi, hlo] at this ⊢; exact this
    clear hlo hhi
    go_enter Try.func97, Try.ntmps97
    go_wp2
    go_loopw [20, 21] (fun vi vj wr => ∃ (st r : Nat), vi = .int .i64 (st : Int) ∧ vj = .int .i64 (r : Int) ∧ lo ≤ st ∧ st ≤ r ∧ r ≤ hi ∧ Hid (Seek3 (p ++ (x ++ (y ++ s))) n lo hi st r) ∧ Hid (Below w.heap.size w wr)) (fun vi vj _ => (intOf vj).toNat - (intOf vi).toNat)
    case atStart => exact ⟨a, m, rfl, rfl, by have := HLO.out; omega, by have := HLO.out; have := HLH.out; omega, by have := HLO.out; omega, HS1, (show Below _ _ _ from Below.refl _ _)⟩
    case round =>
      obtain ⟨st, r, rfl, rfl, hls, hsr, hrh, HK1, HB⟩ := hrel
      by_cases hlt : st < r
      · have hlt' : (st : Int) < (r : Int) := by omega
        obtain ⟨c, hc⟩ : ∃ c : Nat, ((st : Int) + (r : Int)) / 2 = (c : Int) := ⟨(st + r) / 2, by omega⟩
        have c1 : st ≤ c := by omega
        have c2 : c < r := by omega
        have HLH0 := HLH.out
        have HM0 := HM.out
        have HA0 := HA.out
        have hcm : c < m := by omega
        have c3 : (c : Int) < (N : Int) := by omega
        have hstN : (st : Int) ≤ 1000000 := by omega
        have hrN : (r : Int) ≤ 1000000 := by omega
        obtain ⟨pc, hpc⟩ : ∃ pc : Nat, (pp : Int) - (c : Int) = (pc : Int) := ⟨pp - c, by omega⟩
        have p1 : m ≤ pc := by omega
        have p2 : pc < b := by omega
        have p3 : (pc : Int) < (N : Int) := by omega
        obtain ⟨e, he⟩ : ∃ e, x[c - p.length]? = some e := ⟨_, List.getElem?_eq_getElem (by omega)⟩
        obtain ⟨f, hf⟩ : ∃ f, y[pc - (p.length + x.length)]? = some f := ⟨_, List.getElem?_eq_getElem (by omega)⟩
        have heR : (p ++ (x ++ (y ++ s)))[c]? = some e := by rw [mid_left (by omega) (by omega)]; exact he
        have hfR : (p ++ (x ++ (y ++ s)))[pc]? = some f := by rw [mid_right (by omega) (by omega)]; exact hf
        have HCL : Hid (∀ z : WIn (fun w' => Below wr.heap.size wr w'), z.w.rangeAt g (pc * 10) (oc f) ∧ z.w.rangeAt g (c * 10) (oc e)) := fun z => by
          have R := (HR.out.below HB.out).below z.ok
          exact ⟨R.load hfR, R.load heR⟩
        have HK : Hid (∀ w' : World, Calls Try.prog 68 #[ov f, ov e] w' fun r w'' => r = .returned (.int .i64 (cmpS f.a e.a)) ∧ Below w'.heap.size w' w'') := fun w' => byAt50 f e w'
        have hcmp := cmpS_neg f.a e.a
        generalize hrr : cmpS f.a e.a = rr at HK hcmp
        have HE : Hid ((p ++ (x ++ (y ++ s)))[c]? = some e ∧ (p ++ (x ++ (y ++ s)))[pc]? = some f ∧ pc = n - 1 - c ∧ c < r ∧ c + 1 ≤ n) := ⟨heR, hfR, by omega, c2, by omega⟩
        have ne : Nonempty (WIn (fun w' => Below wr.heap.size wr w')) := ⟨⟨wr, Below.refl _ _⟩⟩
        clear hrr heR he hfR hf HLH0 HM0 HA0
        by_cases hl : LtO f e
        · have hneg : rr < 0 := hcmp.2 hl
          have hdd : decide (rr < 0) = true := decide_eq_true hneg
          have HS2 : Hid (Seek3 (p ++ (x ++ (y ++ s))) n lo hi st c) := ⟨HK1.out.lo, .inr ⟨e, f, HE.out.1, by rw [← HE.out.2.2.1]; exact HE.out.2.1, hl⟩⟩
          clear hcmp
          go_wp2_with fail
          refine wp_region_tree (C := fun w' => ∃ z : WIn (fun w' => Below wr.heap.size wr w'), w' = z.w) (.still 0 (.still 1 (.still 2 (.still 3 (.still 4 (.still 5 (.still 6 (.still 7 (.still 8 (.still 9 (.still 10 (.one 11 (.still 12 (.still 13 .done)))))))))))))) (by kernel_rfl) (by kernel_rfl) ⟨⟨wr.drew, below_drewn wr 1⟩, rfl⟩ ?_
          iterate 6 (refine tree_still rfl rfl ?_; go_big_quiet_step (fail); refine wpQuiet_nil ?_)
          refine tree_still rfl rfl ?_
          refine quiet_ok1 rfl (fun w' hw' => by obtain ⟨z, rfl⟩ := hw'; exact exec_load26 (q := f) (.tmp 163) rfl rfl (HCL.out z).1) ?_
          go_simp
          iterate 3 (refine tree_still rfl rfl ?_; go_big_quiet_step (fail); refine wpQuiet_nil ?_)
          refine tree_still rfl rfl ?_
          refine quiet_ok1 rfl (fun w' hw' => by obtain ⟨z, rfl⟩ := hw'; exact exec_load26 (q := e) (.tmp 167) rfl rfl (HCL.out z).2) ?_
          go_simp
          refine tree_one rfl rfl ?_
          go_simp
          refine (HK.out _).mono ?_
          rintro r w3 ⟨rfl, hb3⟩
          have HB3 : Hid (Below wr.heap.size wr w3) := bnext (below_drewn wr 1) hb3
          clear hb3
          refine ⟨⟨⟨w3, HB3.out⟩, rfl⟩, ?_⟩
          go_simp
          iterate 2 (refine tree_still rfl rfl ?_; go_big_quiet_step (fail); refine wpQuiet_nil ?_)
          refine tree_done ?_
          clear ne HCL HK
          go_wp2
          go_roundw
          case rel => exact ⟨st, c, rfl, rfl, hls, by omega, by omega, HS2, (show Below _ _ _ from bnext HB.out HB3.out)⟩
          case measure => simp [intOf] <;> omega
        · have hneg : ¬ rr < 0 := fun k => hl (hcmp.1 k)
          have hdd : decide (rr < 0) = false := decide_eq_false hneg
          have HS2 : Hid (Seek3 (p ++ (x ++ (y ++ s))) n lo hi (c + 1) r) := ⟨.inr ⟨e, f, HE.out.1, by rw [show n - (c + 1) = pc by have := HE.out.2.2.1; omega]; exact HE.out.2.1, hl⟩, HK1.out.hi⟩
          clear hcmp
          go_wp2_with fail
          refine wp_region_tree (C := fun w' => ∃ z : WIn (fun w' => Below wr.heap.size wr w'), w' = z.w) (.still 0 (.still 1 (.still 2 (.still 3 (.still 4 (.still 5 (.still 6 (.still 7 (.still 8 (.still 9 (.still 10 (.one 11 (.still 12 (.still 13 .done)))))))))))))) (by kernel_rfl) (by kernel_rfl) ⟨⟨wr.drew, below_drewn wr 1⟩, rfl⟩ ?_
          iterate 6 (refine tree_still rfl rfl ?_; go_big_quiet_step (fail); refine wpQuiet_nil ?_)
          refine tree_still rfl rfl ?_
          refine quiet_ok1 rfl (fun w' hw' => by obtain ⟨z, rfl⟩ := hw'; exact exec_load26 (q := f) (.tmp 163) rfl rfl (HCL.out z).1) ?_
          go_simp
          iterate 3 (refine tree_still rfl rfl ?_; go_big_quiet_step (fail); refine wpQuiet_nil ?_)
          refine tree_still rfl rfl ?_
          refine quiet_ok1 rfl (fun w' hw' => by obtain ⟨z, rfl⟩ := hw'; exact exec_load26 (q := e) (.tmp 167) rfl rfl (HCL.out z).2) ?_
          go_simp
          refine tree_one rfl rfl ?_
          go_simp
          refine (HK.out _).mono ?_
          rintro r w3 ⟨rfl, hb3⟩
          have HB3 : Hid (Below wr.heap.size wr w3) := bnext (below_drewn wr 1) hb3
          clear hb3
          refine ⟨⟨⟨w3, HB3.out⟩, rfl⟩, ?_⟩
          go_simp
          iterate 2 (refine tree_still rfl rfl ?_; go_big_quiet_step (fail); refine wpQuiet_nil ?_)
          refine tree_done ?_
          clear ne HCL HK
          go_wp2
          go_roundw
          case rel => exact ⟨c + 1, r, by go_num, rfl, by omega, by omega, hrh, HS2, (show Below _ _ _ from bnext HB.out HB3.out)⟩
          case measure => simp [intOf] <;> omega
      · obtain rfl : st = r := by omega
        have hlt' : ¬ (st : Int) < (st : Int) := by omega
        have HLH0 := HLH.out
        have HM0 := HM.out
        have HA0 := HA.out
        have HLL0 := HLL.out
        obtain ⟨en, hen⟩ : ∃ en : Nat, (n : Int) - (st : Int) = (en : Int) := ⟨n - st, by omega⟩
        have HP := seek3_parts HA0.1 HA0.2.1 HA0.2.2 HX.out HY.out HK1.out HLH0.1 hls hrh HLH0.2.2.1 (by omega) HLH0.2.2.2.2.2.1 HLH0.2.2.2.2.2.2
        rw [show n - st - m = en - m by omega] at HP
        obtain ⟨x1, hx1⟩ : ∃ x1, x1 = x.take (st - a) := ⟨_, rfl⟩
        obtain ⟨x2, hx2⟩ : ∃ x2, x2 = x.drop (st - a) := ⟨_, rfl⟩
        obtain ⟨y1, hy1⟩ : ∃ y1, y1 = y.take (en - m) := ⟨_, rfl⟩
        obtain ⟨y2, hy2⟩ : ∃ y2, y2 = y.drop (en - m) := ⟨_, rfl⟩
        rw [← hx1, ← hx2, ← hy1, ← hy2] at HP
        have lx1 : x1.length = st - a := by rw [hx1, List.length_take]; omega
        have lx2 : x2.length = m - st := by rw [hx2, List.length_drop]; omega
        have ly1 : y1.length = en - m := by rw [hy1, List.length_take]; omega
        have ly2 : y2.length = b - en := by rw [hy2, List.length_drop]; omega
        have ex : x = x1 ++ x2 := by rw [hx1, hx2, List.take_append_drop]
        have ey : y = y1 ++ y2 := by rw [hy1, hy2, List.take_append_drop]
        have hsx := HX.out
        have hsy := HY.out
        rw [ex] at hsx
        rw [ey] at hsy
        have HSX : Hid (SrtO x1 ∧ SrtO x2 ∧ SrtO (x1 ++ x2)) := ⟨(srt_append.1 hsx).1, (srt_append.1 hsx).2.1, hsx⟩
        have HSY : Hid (SrtO y1 ∧ SrtO y2 ∧ SrtO (y1 ++ y2)) := ⟨(srt_append.1 hsy).1, (srt_append.1 hsy).2.1, hsy⟩
        have HPP : Hid ((∀ q ∈ x1, ∀ t ∈ y2, LeO q t) ∧ (∀ q ∈ y1, ∀ t ∈ x2, LtO q t)) := HP
        have HR0 : Hid (Row wr g N cap ((p ++ x1) ++ (x2 ++ (y1 ++ (y2 ++ s))))) := by
          show Row _ _ _ _ _
          have := HR.out.below HB.out
          rw [ex, ey] at this
          simpa using this
        have HLN : Hid (x1.length = st - a ∧ x2.length = m - st ∧ y1.length = en - m ∧ y2.length = b - en ∧ x = x1 ++ x2 ∧ y = y1 ++ y2) := ⟨lx1, lx2, ly1, ly2, ex, ey⟩
        have HG0 : Hid (w.grownBy wr (some g)) := (show World.grownBy _ _ _ from ⟨HB.out.os, HB.out.tape, HB.out.output, HB.out.size, fun k hk _ => HB.out.block k hk⟩)
        have HNM : Hid (n = mid + m ∧ a ≤ st ∧ st ≤ m ∧ m ≤ en ∧ en ≤ b ∧ n = en + st ∧ 2 ≤ m - a ∧ 2 ≤ b - m ∧ a = p.length) := by show _ ∧ _; omega
        have d1 : st < m ↔ mid < en := by omega
        have d2 : m < en ↔ st < mid := by omega
        have g1 : (st : Int) ≤ 1000000 := by omega
        have g2 : (en : Int) ≤ 1000000 := by omega
        clear hx1 hx2 hy1 hy2 ex ey hsx hsy HP lx1 lx2 ly1 ly2 HLH0 HA0 HLL0 HM0
        by_cases X1 : a < st <;> by_cases X2 : st < m <;> by_cases Y1 : m < en <;> by_cases Y2 : en < b
        · have i1 : (a : Int) < (st : Int) := by omega
          have i2 : (st : Int) < (m : Int) := by omega
          have i3 : (m : Int) < (en : Int) := by omega
          have i4 : (en : Int) < (b : Int) := by omega
          have i5 : (st : Int) < (mid : Int) := by omega
          have i6 : (mid : Int) < (en : Int) := by omega
          clear d1 d2
          have HROT : Hid (Calls Try.prog 109 #[.slice (some ⟨g, 0, none⟩) N cap, .int .i64 (st : Int), .int .i64 (m : Int), .int .i64 (en : Int), .func (.func 68) #[] #[]] wr fun e w' => e = .returned (.tuple #[]) ∧ Row w' g N cap ((p ++ x1) ++ (y1 ++ (x2 ++ (y2 ++ s)))) ∧ wr.grownBy w' (some g)) := by
            have k1 := HLN.out; have k2 := HNM.out
            exact rotate100 HR0.out (by simp; omega) (by simp; omega) (by omega) (by omega) (by omega) hN
          go_upto_region 41 with (go_at_call 109; go_must (refine HROT.out.mono ?_; rintro r wA ⟨rfl, hRA, hGA⟩; have HRA0 : Hid (Row wA g N cap ((p ++ x1) ++ (y1 ++ (x2 ++ (y2 ++ s))))) := hRA; have HGA : Hid (w.grownBy wA (some g)) := grown_trans HG0.out hGA (fun k hk => .inl hk); clear hRA hGA))
          have HRA : Hid (Row wA g N cap (p ++ (x1 ++ (y1 ++ ((x2 ++ y2) ++ s))))) := by
            show Row _ _ _ _ _; have := HRA0.out; simpa using this
          have HS1 : Hid (Calls Try.prog 97 #[.slice (some ⟨g, 0, none⟩) N cap, .int .i64 (a : Int), .int .i64 (st : Int), .int .i64 (mid : Int), .func (.func 68) #[] #[]] wA fun e w' => e = .returned (.tuple #[]) ∧ ∃ z, MrgS x1 y1 z ∧ Row w' g N cap (p ++ (z ++ ((x2 ++ y2) ++ s))) ∧ wA.grownBy w' (some g)) := by
            have k1 := HLN.out; have k2 := HNM.out
            exact ih HRA.out (by omega) (by omega) (by omega) HSX.out.1 HSY.out.1 (by omega) (by omega) hN (by omega)
          go_upto_region 43 with (go_at_call 97; go_must (refine HS1.out.mono ?_; rintro r wB ⟨rfl, z1, hz1, hRB, hGB⟩; have HZ1 : Hid (MrgS x1 y1 z1) := hz1; have HRB : Hid (Row wB g N cap (p ++ (z1 ++ ((x2 ++ y2) ++ s)))) := hRB; have HGB : Hid (w.grownBy wB (some g)) := grown_trans HGA.out hGB (fun k hk => .inl hk); clear hz1 hRB hGB))
          all_goals
            have HS2 : Hid (Calls Try.prog 97 #[.slice (some ⟨g, 0, none⟩) N cap, .int .i64 (mid : Int), .int .i64 (en : Int), .int .i64 (b : Int), .func (.func 68) #[] #[]] wB fun e w' => e = .returned (.tuple #[]) ∧ ∃ z, MrgS x2 y2 z ∧ Row w' g N cap ((p ++ z1) ++ (z ++ s)) ∧ wB.grownBy w' (some g)) := by
              have k1 := HLN.out; have k2 := HNM.out; have k3 := HZ1.out.len
              refine ih (p := p ++ z1) (x := x2) (y := y2) (s := s) ?_ (by simp; omega) (by omega) (by omega) HSX.out.2.1 HSY.out.2.1 (by omega) (by omega) hN (by omega)
              have := HRB.out; simpa using this
            go_wp2_with (go_at_call 97; go_must (refine HS2.out.mono ?_; rintro r wC ⟨rfl, z2, hz2, hRC, hGC⟩; have HZ2 : Hid (MrgS x2 y2 z2) := hz2; have HRC : Hid (Row wC g N cap ((p ++ z1) ++ (z2 ++ s))) := hRC; have HGC : Hid (w.grownBy wC (some g)) := grown_trans HGB.out hGC (fun k hk => .inl hk); clear hz2 hRC hGC))
          all_goals
            have hh := halves HSX.out.2.2 HSY.out.2.2 HPP.out.1 HPP.out.2 HZ1.out.srt HZ1.out.keep HZ2.out.srt HZ2.out.keep
            have hR := HRC.out
            rw [List.append_assoc, ← List.append_assoc z1] at hR
            go_end0
            exact ⟨rfl, z1 ++ z2, ⟨hh.1, by rw [HLN.out.2.2.2.2.1, HLN.out.2.2.2.2.2]; exact hh.2, by have k1 := HLN.out; have k2 := HZ1.out.len; have k3 := HZ2.out.len; rw [k1.2.2.2.2.1, k1.2.2.2.2.2]; simp; omega⟩, hR, HGC.out⟩
        · have i1 : (a : Int) < (st : Int) := by omega
          have i2 : (st : Int) < (m : Int) := by omega
          have i3 : (m : Int) < (en : Int) := by omega
          have i4 : ¬ (en : Int) < (b : Int) := by omega
          have i5 : (st : Int) < (mid : Int) := by omega
          have i6 : (mid : Int) < (en : Int) := by omega
          have e_y2 : y2 = [] := List.eq_nil_of_length_eq_zero (by have := HLN.out.2.2.2.1; omega)
          clear d1 d2
          have HROT : Hid (Calls Try.prog 109 #[.slice (some ⟨g, 0, none⟩) N cap, .int .i64 (st : Int), .int .i64 (m : Int), .int .i64 (en : Int), .func (.func 68) #[] #[]] wr fun e w' => e = .returned (.tuple #[]) ∧ Row w' g N cap ((p ++ x1) ++ (y1 ++ (x2 ++ (y2 ++ s)))) ∧ wr.grownBy w' (some g)) := by
            have k1 := HLN.out; have k2 := HNM.out
            exact rotate100 HR0.out (by simp; omega) (by simp; omega) (by omega) (by omega) (by omega) hN
          go_upto_region 41 with (go_at_call 109; go_must (refine HROT.out.mono ?_; rintro r wA ⟨rfl, hRA, hGA⟩; have HRA0 : Hid (Row wA g N cap ((p ++ x1) ++ (y1 ++ (x2 ++ (y2 ++ s))))) := hRA; have HGA : Hid (w.grownBy wA (some g)) := grown_trans HG0.out hGA (fun k hk => .inl hk); clear hRA hGA))
          have HRA : Hid (Row wA g N cap (p ++ (x1 ++ (y1 ++ ((x2 ++ y2) ++ s))))) := by
            show Row _ _ _ _ _; have := HRA0.out; simpa using this
          have HS1 : Hid (Calls Try.prog 97 #[.slice (some ⟨g, 0, none⟩) N cap, .int .i64 (a : Int), .int .i64 (st : Int), .int .i64 (mid : Int), .func (.func 68) #[] #[]] wA fun e w' => e = .returned (.tuple #[]) ∧ ∃ z, MrgS x1 y1 z ∧ Row w' g N cap (p ++ (z ++ ((x2 ++ y2) ++ s))) ∧ wA.grownBy w' (some g)) := by
            have k1 := HLN.out; have k2 := HNM.out
            exact ih HRA.out (by omega) (by omega) (by omega) HSX.out.1 HSY.out.1 (by omega) (by omega) hN (by omega)
          go_upto_region 43 with (go_at_call 97; go_must (refine HS1.out.mono ?_; rintro r wB ⟨rfl, z1, hz1, hRB, hGB⟩; have HZ1 : Hid (MrgS x1 y1 z1) := hz1; have HRB : Hid (Row wB g N cap (p ++ (z1 ++ ((x2 ++ y2) ++ s)))) := hRB; have HGB : Hid (w.grownBy wB (some g)) := grown_trans HGA.out hGB (fun k hk => .inl hk); clear hz1 hRB hGB))
          all_goals
            go_wp2_with fail
          all_goals
            have HZ2 : Hid (MrgS x2 y2 (x2 ++ y2)) := by show MrgS _ _ _; rw [e_y2]; exact mrg_nilR HSX.out.2.1
            have HRC : Hid (Row wB g N cap ((p ++ z1) ++ ((x2 ++ y2) ++ s))) := by show Row _ _ _ _ _; have := HRB.out; simpa using this
            have HGC := HGB
            generalize x2 ++ y2 = z2 at HZ2 HRC
            have hh := halves HSX.out.2.2 HSY.out.2.2 HPP.out.1 HPP.out.2 HZ1.out.srt HZ1.out.keep HZ2.out.srt HZ2.out.keep
            have hR := HRC.out
            rw [List.append_assoc, ← List.append_assoc z1] at hR
            go_end0
            exact ⟨rfl, z1 ++ z2, ⟨hh.1, by rw [HLN.out.2.2.2.2.1, HLN.out.2.2.2.2.2]; exact hh.2, by have k1 := HLN.out; have k2 := HZ1.out.len; have k3 := HZ2.out.len; rw [k1.2.2.2.2.1, k1.2.2.2.2.2]; simp; omega⟩, hR, HGC.out⟩
        · have i1 : (a : Int) < (st : Int) := by omega
          have i2 : (st : Int) < (m : Int) := by omega
          have i3 : ¬ (m : Int) < (en : Int) := by omega
          have i4 : (en : Int) < (b : Int) := by omega
          have i5 : ¬ (st : Int) < (mid : Int) := by omega
          have i6 : (mid : Int) < (en : Int) := by omega
          have e_y1 : y1 = [] := List.eq_nil_of_length_eq_zero (by have := HLN.out.2.2.1; omega)
          clear d1 d2
          go_upto_region 41 with fail
          have HRA : Hid (Row wr g N cap (p ++ (x1 ++ (y1 ++ ((x2 ++ y2) ++ s))))) := by
            show Row _ _ _ _ _; have := HR0.out; rw [e_y1] at this ⊢; simpa using this
          have HGA := HG0
          go_upto_region 43 with fail
          all_goals
            have HZ1 : Hid (MrgS x1 y1 (x1 ++ y1)) := by show MrgS _ _ _; rw [e_y1]; exact mrg_nilR HSX.out.1
            have HRB : Hid (Row wr g N cap (p ++ ((x1 ++ y1) ++ ((x2 ++ y2) ++ s)))) := by show Row _ _ _ _ _; have := HRA.out; simpa using this
            have HGB := HGA
            generalize x1 ++ y1 = z1 at HZ1 HRB
            have HS2 : Hid (Calls Try.prog 97 #[.slice (some ⟨g, 0, none⟩) N cap, .int .i64 (mid : Int), .int .i64 (en : Int), .int .i64 (b : Int), .func (.func 68) #[] #[]] wr fun e w' => e = .returned (.tuple #[]) ∧ ∃ z, MrgS x2 y2 z ∧ Row w' g N cap ((p ++ z1) ++ (z ++ s)) ∧ wr.grownBy w' (some g)) := by
              have k1 := HLN.out; have k2 := HNM.out; have k3 := HZ1.out.len
              refine ih (p := p ++ z1) (x := x2) (y := y2) (s := s) ?_ (by simp; omega) (by omega) (by omega) HSX.out.2.1 HSY.out.2.1 (by omega) (by omega) hN (by omega)
              have := HRB.out; simpa using this
            go_wp2_with (go_at_call 97; go_must (refine HS2.out.mono ?_; rintro r wC ⟨rfl, z2, hz2, hRC, hGC⟩; have HZ2 : Hid (MrgS x2 y2 z2) := hz2; have HRC : Hid (Row wC g N cap ((p ++ z1) ++ (z2 ++ s))) := hRC; have HGC : Hid (w.grownBy wC (some g)) := grown_trans HGB.out hGC (fun k hk => .inl hk); clear hz2 hRC hGC))
          all_goals
            have hh := halves HSX.out.2.2 HSY.out.2.2 HPP.out.1 HPP.out.2 HZ1.out.srt HZ1.out.keep HZ2.out.srt HZ2.out.keep
            have hR := HRC.out
            rw [List.append_assoc, ← List.append_assoc z1] at hR
            go_end0
            exact ⟨rfl, z1 ++ z2, ⟨hh.1, by rw [HLN.out.2.2.2.2.1, HLN.out.2.2.2.2.2]; exact hh.2, by have k1 := HLN.out; have k2 := HZ1.out.len; have k3 := HZ2.out.len; rw [k1.2.2.2.2.1, k1.2.2.2.2.2]; simp; omega⟩, hR, HGC.out⟩
        · exact absurd HNM.out (by omega)
        · have i1 : (a : Int) < (st : Int) := by omega
          have i2 : ¬ (st : Int) < (m : Int) := by omega
          have i3 : (m : Int) < (en : Int) := by omega
          have i4 : (en : Int) < (b : Int) := by omega
          have i5 : (st : Int) < (mid : Int) := by omega
          have i6 : ¬ (mid : Int) < (en : Int) := by omega
          have e_x2 : x2 = [] := List.eq_nil_of_length_eq_zero (by have := HLN.out.2.1; omega)
          clear d1 d2
          go_upto_region 41 with fail
          have HRA : Hid (Row wr g N cap (p ++ (x1 ++ (y1 ++ ((x2 ++ y2) ++ s))))) := by
            show Row _ _ _ _ _; have := HR0.out; rw [e_x2] at this ⊢; simpa using this
          have HGA := HG0
          have HS1 : Hid (Calls Try.prog 97 #[.slice (some ⟨g, 0, none⟩) N cap, .int .i64 (a : Int), .int .i64 (st : Int), .int .i64 (mid : Int), .func (.func 68) #[] #[]] wr fun e w' => e = .returned (.tuple #[]) ∧ ∃ z, MrgS x1 y1 z ∧ Row w' g N cap (p ++ (z ++ ((x2 ++ y2) ++ s))) ∧ wr.grownBy w' (some g)) := by
            have k1 := HLN.out; have k2 := HNM.out
            exact ih HRA.out (by omega) (by omega) (by omega) HSX.out.1 HSY.out.1 (by omega) (by omega) hN (by omega)
          go_upto_region 43 with (go_at_call 97; go_must (refine HS1.out.mono ?_; rintro r wB ⟨rfl, z1, hz1, hRB, hGB⟩; have HZ1 : Hid (MrgS x1 y1 z1) := hz1; have HRB : Hid (Row wB g N cap (p ++ (z1 ++ ((x2 ++ y2) ++ s)))) := hRB; have HGB : Hid (w.grownBy wB (some g)) := grown_trans HGA.out hGB (fun k hk => .inl hk); clear hz1 hRB hGB))
          all_goals
            go_wp2_with fail
          all_goals
            have HZ2 : Hid (MrgS x2 y2 (x2 ++ y2)) := by show MrgS _ _ _; rw [e_x2]; exact mrg_nilL HSY.out.2.1
            have HRC : Hid (Row wB g N cap ((p ++ z1) ++ ((x2 ++ y2) ++ s))) := by show Row _ _ _ _ _; have := HRB.out; simpa using this
            have HGC := HGB
            generalize x2 ++ y2 = z2 at HZ2 HRC
            have hh := halves HSX.out.2.2 HSY.out.2.2 HPP.out.1 HPP.out.2 HZ1.out.srt HZ1.out.keep HZ2.out.srt HZ2.out.keep
            have hR := HRC.out
            rw [List.append_assoc, ← List.append_assoc z1] at hR
            go_end0
            exact ⟨rfl, z1 ++ z2, ⟨hh.1, by rw [HLN.out.2.2.2.2.1, HLN.out.2.2.2.2.2]; exact hh.2, by have k1 := HLN.out; have k2 := HZ1.out.len; have k3 := HZ2.out.len; rw [k1.2.2.2.2.1, k1.2.2.2.2.2]; simp; omega⟩, hR, HGC.out⟩
        · have i1 : (a : Int) < (st : Int) := by omega
          have i2 : ¬ (st : Int) < (m : Int) := by omega
          have i3 : (m : Int) < (en : Int) := by omega
          have i4 : ¬ (en : Int) < (b : Int) := by omega
          have i5 : (st : Int) < (mid : Int) := by omega
          have i6 : ¬ (mid : Int) < (en : Int) := by omega
          have e_x2 : x2 = [] := List.eq_nil_of_length_eq_zero (by have := HLN.out.2.1; omega)
          have e_y2 : y2 = [] := List.eq_nil_of_length_eq_zero (by have := HLN.out.2.2.2.1; omega)
          clear d1 d2
          go_upto_region 41 with fail
          have HRA : Hid (Row wr g N cap (p ++ (x1 ++ (y1 ++ ((x2 ++ y2) ++ s))))) := by
            show Row _ _ _ _ _; have := HR0.out; rw [e_x2] at this ⊢; simpa using this
          have HGA := HG0
          have HS1 : Hid (Calls Try.prog 97 #[.slice (some ⟨g, 0, none⟩) N cap, .int .i64 (a : Int), .int .i64 (st : Int), .int .i64 (mid : Int), .func (.func 68) #[] #[]] wr fun e w' => e = .returned (.tuple #[]) ∧ ∃ z, MrgS x1 y1 z ∧ Row w' g N cap (p ++ (z ++ ((x2 ++ y2) ++ s))) ∧ wr.grownBy w' (some g)) := by
            have k1 := HLN.out; have k2 := HNM.out
            exact ih HRA.out (by omega) (by omega) (by omega) HSX.out.1 HSY.out.1 (by omega) (by omega) hN (by omega)
          go_upto_region 43 with (go_at_call 97; go_must (refine HS1.out.mono ?_; rintro r wB ⟨rfl, z1, hz1, hRB, hGB⟩; have HZ1 : Hid (MrgS x1 y1 z1) := hz1; have HRB : Hid (Row wB g N cap (p ++ (z1 ++ ((x2 ++ y2) ++ s)))) := hRB; have HGB : Hid (w.grownBy wB (some g)) := grown_trans HGA.out hGB (fun k hk => .inl hk); clear hz1 hRB hGB))
          all_goals
            go_wp2_with fail
          all_goals
            have HZ2 : Hid (MrgS x2 y2 (x2 ++ y2)) := by show MrgS _ _ _; rw [e_x2]; exact mrg_nilL HSY.out.2.1
            have HRC : Hid (Row wB g N cap ((p ++ z1) ++ ((x2 ++ y2) ++ s))) := by show Row _ _ _ _ _; have := HRB.out; simpa using this
            have HGC := HGB
            generalize x2 ++ y2 = z2 at HZ2 HRC
            have hh := halves HSX.out.2.2 HSY.out.2.2 HPP.out.1 HPP.out.2 HZ1.out.srt HZ1.out.keep HZ2.out.srt HZ2.out.keep
            have hR := HRC.out
            rw [List.append_assoc, ← List.append_assoc z1] at hR
            go_end0
            exact ⟨rfl, z1 ++ z2, ⟨hh.1, by rw [HLN.out.2.2.2.2.1, HLN.out.2.2.2.2.2]; exact hh.2, by have k1 := HLN.out; have k2 := HZ1.out.len; have k3 := HZ2.out.len; rw [k1.2.2.2.2.1, k1.2.2.2.2.2]; simp; omega⟩, hR, HGC.out⟩
        · have i1 : (a : Int) < (st : Int) := by omega
          have i2 : ¬ (st : Int) < (m : Int) := by omega
          have i3 : ¬ (m : Int) < (en : Int) := by omega
          have i4 : (en : Int) < (b : Int) := by omega
          have i5 : ¬ (st : Int) < (mid : Int) := by omega
          have i6 : ¬ (mid : Int) < (en : Int) := by omega
          have e_x2 : x2 = [] := List.eq_nil_of_length_eq_zero (by have := HLN.out.2.1; omega)
          have e_y1 : y1 = [] := List.eq_nil_of_length_eq_zero (by have := HLN.out.2.2.1; omega)
          clear d1 d2
          go_upto_region 41 with fail
          have HRA : Hid (Row wr g N cap (p ++ (x1 ++ (y1 ++ ((x2 ++ y2) ++ s))))) := by
            show Row _ _ _ _ _; have := HR0.out; rw [e_x2] at this ⊢; simpa using this
          have HGA := HG0
          go_upto_region 43 with fail
          all_goals
            have HZ1 : Hid (MrgS x1 y1 (x1 ++ y1)) := by show MrgS _ _ _; rw [e_y1]; exact mrg_nilR HSX.out.1
            have HRB : Hid (Row wr g N cap (p ++ ((x1 ++ y1) ++ ((x2 ++ y2) ++ s)))) := by show Row _ _ _ _ _; have := HRA.out; simpa using this
            have HGB := HGA
            generalize x1 ++ y1 = z1 at HZ1 HRB
            go_wp2_with fail
          all_goals
            have HZ2 : Hid (MrgS x2 y2 (x2 ++ y2)) := by show MrgS _ _ _; rw [e_x2]; exact mrg_nilL HSY.out.2.1
            have HRC : Hid (Row wr g N cap ((p ++ z1) ++ ((x2 ++ y2) ++ s))) := by show Row _ _ _ _ _; have := HRB.out; simpa using this
            have HGC := HGB
            generalize x2 ++ y2 = z2 at HZ2 HRC
            have hh := halves HSX.out.2.2 HSY.out.2.2 HPP.out.1 HPP.out.2 HZ1.out.srt HZ1.out.keep HZ2.out.srt HZ2.out.keep
            have hR := HRC.out
            rw [List.append_assoc, ← List.append_assoc z1] at hR
            go_end0
            exact ⟨rfl, z1 ++ z2, ⟨hh.1, by rw [HLN.out.2.2.2.2.1, HLN.out.2.2.2.2.2]; exact hh.2, by have k1 := HLN.out; have k2 := HZ1.out.len; have k3 := HZ2.out.len; rw [k1.2.2.2.2.1, k1.2.2.2.2.2]; simp; omega⟩, hR, HGC.out⟩
        · exact absurd HNM.out (by omega)
        · have i1 : ¬ (a : Int) < (st : Int) := by omega
          have i2 : (st : Int) < (m : Int) := by omega
          have i3 : (m : Int) < (en : Int) := by omega
          have i4 : (en : Int) < (b : Int) := by omega
          have i5 : (st : Int) < (mid : Int) := by omega
          have i6 : (mid : Int) < (en : Int) := by omega
          have e_x1 : x1 = [] := List.eq_nil_of_length_eq_zero (by have := HLN.out.1; omega)
          clear d1 d2
          have HROT : Hid (Calls Try.prog 109 #[.slice (some ⟨g, 0, none⟩) N cap, .int .i64 (st : Int), .int .i64 (m : Int), .int .i64 (en : Int), .func (.func 68) #[] #[]] wr fun e w' => e = .returned (.tuple #[]) ∧ Row w' g N cap ((p ++ x1) ++ (y1 ++ (x2 ++ (y2 ++ s)))) ∧ wr.grownBy w' (some g)) := by
            have k1 := HLN.out; have k2 := HNM.out
            exact rotate100 HR0.out (by simp; omega) (by simp; omega) (by omega) (by omega) (by omega) hN
          go_upto_region 41 with (go_at_call 109; go_must (refine HROT.out.mono ?_; rintro r wA ⟨rfl, hRA, hGA⟩; have HRA0 : Hid (Row wA g N cap ((p ++ x1) ++ (y1 ++ (x2 ++ (y2 ++ s))))) := hRA; have HGA : Hid (w.grownBy wA (some g)) := grown_trans HG0.out hGA (fun k hk => .inl hk); clear hRA hGA))
          have HRA : Hid (Row wA g N cap (p ++ (x1 ++ (y1 ++ ((x2 ++ y2) ++ s))))) := by
            show Row _ _ _ _ _; have := HRA0.out; simpa using this
          go_upto_region 43 with fail
          all_goals
            have HZ1 : Hid (MrgS x1 y1 (x1 ++ y1)) := by show MrgS _ _ _; rw [e_x1]; exact mrg_nilL HSY.out.1
            have HRB : Hid (Row wA g N cap (p ++ ((x1 ++ y1) ++ ((x2 ++ y2) ++ s)))) := by show Row _ _ _ _ _; have := HRA.out; simpa using this
            have HGB := HGA
            generalize x1 ++ y1 = z1 at HZ1 HRB
            have HS2 : Hid (Calls Try.prog 97 #[.slice (some ⟨g, 0, none⟩) N cap, .int .i64 (mid : Int), .int .i64 (en : Int), .int .i64 (b : Int), .func (.func 68) #[] #[]] wA fun e w' => e = .returned (.tuple #[]) ∧ ∃ z, MrgS x2 y2 z ∧ Row w' g N cap ((p ++ z1) ++ (z ++ s)) ∧ wA.grownBy w' (some g)) := by
              have k1 := HLN.out; have k2 := HNM.out; have k3 := HZ1.out.len
              refine ih (p := p ++ z1) (x := x2) (y := y2) (s := s) ?_ (by simp; omega) (by omega) (by omega) HSX.out.2.1 HSY.out.2.1 (by omega) (by omega) hN (by omega)
              have := HRB.out; simpa using this
            go_wp2_with (go_at_call 97; go_must (refine HS2.out.mono ?_; rintro r wC ⟨rfl, z2, hz2, hRC, hGC⟩; have HZ2 : Hid (MrgS x2 y2 z2) := hz2; have HRC : Hid (Row wC g N cap ((p ++ z1) ++ (z2 ++ s))) := hRC; have HGC : Hid (w.grownBy wC (some g)) := grown_trans HGB.out hGC (fun k hk => .inl hk); clear hz2 hRC hGC))
          all_goals
            have hh := halves HSX.out.2.2 HSY.out.2.2 HPP.out.1 HPP.out.2 HZ1.out.srt HZ1.out.keep HZ2.out.srt HZ2.out.keep
            have hR := HRC.out
            rw [List.append_assoc, ← List.append_assoc z1] at hR
            go_end0
            exact ⟨rfl, z1 ++ z2, ⟨hh.1, by rw [HLN.out.2.2.2.2.1, HLN.out.2.2.2.2.2]; exact hh.2, by have k1 := HLN.out; have k2 := HZ1.out.len; have k3 := HZ2.out.len; rw [k1.2.2.2.2.1, k1.2.2.2.2.2]; simp; omega⟩, hR, HGC.out⟩
        · have i1 : ¬ (a : Int) < (st : Int) := by omega
          have i2 : (st : Int) < (m : Int) := by omega
          have i3 : (m : Int) < (en : Int) := by omega
          have i4 : ¬ (en : Int) < (b : Int) := by omega
          have i5 : (st : Int) < (mid : Int) := by omega
          have i6 : (mid : Int) < (en : Int) := by omega
          have e_x1 : x1 = [] := List.eq_nil_of_length_eq_zero (by have := HLN.out.1; omega)
          have e_y2 : y2 = [] := List.eq_nil_of_length_eq_zero (by have := HLN.out.2.2.2.1; omega)
          clear d1 d2
          have HROT : Hid (Calls Try.prog 109 #[.slice (some ⟨g, 0, none⟩) N cap, .int .i64 (st : Int), .int .i64 (m : Int), .int .i64 (en : Int), .func (.func 68) #[] #[]] wr fun e w' => e = .returned (.tuple #[]) ∧ Row w' g N cap ((p ++ x1) ++ (y1 ++ (x2 ++ (y2 ++ s)))) ∧ wr.grownBy w' (some g)) := by
            have k1 := HLN.out; have k2 := HNM.out
            exact rotate100 HR0.out (by simp; omega) (by simp; omega) (by omega) (by omega) (by omega) hN
          go_upto_region 41 with (go_at_call 109; go_must (refine HROT.out.mono ?_; rintro r wA ⟨rfl, hRA, hGA⟩; have HRA0 : Hid (Row wA g N cap ((p ++ x1) ++ (y1 ++ (x2 ++ (y2 ++ s))))) := hRA; have HGA : Hid (w.grownBy wA (some g)) := grown_trans HG0.out hGA (fun k hk => .inl hk); clear hRA hGA))
          have HRA : Hid (Row wA g N cap (p ++ (x1 ++ (y1 ++ ((x2 ++ y2) ++ s))))) := by
            show Row _ _ _ _ _; have := HRA0.out; simpa using this
          go_upto_region 43 with fail
          all_goals
            have HZ1 : Hid (MrgS x1 y1 (x1 ++ y1)) := by show MrgS _ _ _; rw [e_x1]; exact mrg_nilL HSY.out.1
            have HRB : Hid (Row wA g N cap (p ++ ((x1 ++ y1) ++ ((x2 ++ y2) ++ s)))) := by show Row _ _ _ _ _; have := HRA.out; simpa using this
            have HGB := HGA
            generalize x1 ++ y1 = z1 at HZ1 HRB
            go_wp2_with fail
          all_goals
            have HZ2 : Hid (MrgS x2 y2 (x2 ++ y2)) := by show MrgS _ _ _; rw [e_y2]; exact mrg_nilR HSX.out.2.1
            have HRC : Hid (Row wA g N cap ((p ++ z1) ++ ((x2 ++ y2) ++ s))) := by show Row _ _ _ _ _; have := HRB.out; simpa using this
            have HGC := HGB
            generalize x2 ++ y2 = z2 at HZ2 HRC
            have hh := halves HSX.out.2.2 HSY.out.2.2 HPP.out.1 HPP.out.2 HZ1.out.srt HZ1.out.keep HZ2.out.srt HZ2.out.keep
            have hR := HRC.out
            rw [List.append_assoc, ← List.append_assoc z1] at hR
            go_end0
            exact ⟨rfl, z1 ++ z2, ⟨hh.1, by rw [HLN.out.2.2.2.2.1, HLN.out.2.2.2.2.2]; exact hh.2, by have k1 := HLN.out; have k2 := HZ1.out.len; have k3 := HZ2.out.len; rw [k1.2.2.2.2.1, k1.2.2.2.2.2]; simp; omega⟩, hR, HGC.out⟩
        · have i1 : ¬ (a : Int) < (st : Int) := by omega
          have i2 : (st : Int) < (m : Int) := by omega
          have i3 : ¬ (m : Int) < (en : Int) := by omega
          have i4 : (en : Int) < (b : Int) := by omega
          have i5 : ¬ (st : Int) < (mid : Int) := by omega
          have i6 : (mid : Int) < (en : Int) := by omega
          have e_x1 : x1 = [] := List.eq_nil_of_length_eq_zero (by have := HLN.out.1; omega)
          have e_y1 : y1 = [] := List.eq_nil_of_length_eq_zero (by have := HLN.out.2.2.1; omega)
          clear d1 d2
          go_upto_region 41 with fail
          have HRA : Hid (Row wr g N cap (p ++ (x1 ++ (y1 ++ ((x2 ++ y2) ++ s))))) := by
            show Row _ _ _ _ _; have := HR0.out; rw [e_y1] at this ⊢; simpa using this
          have HGA := HG0
          go_upto_region 43 with fail
          all_goals
            have HZ1 : Hid (MrgS x1 y1 (x1 ++ y1)) := by show MrgS _ _ _; rw [e_x1]; exact mrg_nilL HSY.out.1
            have HRB : Hid (Row wr g N cap (p ++ ((x1 ++ y1) ++ ((x2 ++ y2) ++ s)))) := by show Row _ _ _ _ _; have := HRA.out; simpa using this
            have HGB := HGA
            generalize x1 ++ y1 = z1 at HZ1 HRB
            have HS2 : Hid (Calls Try.prog 97 #[.slice (some ⟨g, 0, none⟩) N cap, .int .i64 (mid : Int), .int .i64 (en : Int), .int .i64 (b : Int), .func (.func 68) #[] #[]] wr fun e w' => e = .returned (.tuple #[]) ∧ ∃ z, MrgS x2 y2 z ∧ Row w' g N cap ((p ++ z1) ++ (z ++ s)) ∧ wr.grownBy w' (some g)) := by
              have k1 := HLN.out; have k2 := HNM.out; have k3 := HZ1.out.len
              refine ih (p := p ++ z1) (x := x2) (y := y2) (s := s) ?_ (by simp; omega) (by omega) (by omega) HSX.out.2.1 HSY.out.2.1 (by omega) (by omega) hN (by omega)
              have := HRB.out; simpa using this
            go_wp2_with (go_at_call 97; go_must (refine HS2.out.mono ?_; rintro r wC ⟨rfl, z2, hz2, hRC, hGC⟩; have HZ2 : Hid (MrgS x2 y2 z2) := hz2; have HRC : Hid (Row wC g N cap ((p ++ z1) ++ (z2 ++ s))) := hRC; have HGC : Hid (w.grownBy wC (some g)) := grown_trans HGB.out hGC (fun k hk => .inl hk); clear hz2 hRC hGC))
          all_goals
            have hh := halves HSX.out.2.2 HSY.out.2.2 HPP.out.1 HPP.out.2 HZ1.out.srt HZ1.out.keep HZ2.out.srt HZ2.out.keep
            have hR := HRC.out
            rw [List.append_assoc, ← List.append_assoc z1] at hR
            go_end0
            exact ⟨rfl, z1 ++ z2, ⟨hh.1, by rw [HLN.out.2.2.2.2.1, HLN.out.2.2.2.2.2]; exact hh.2, by have k1 := HLN.out; have k2 := HZ1.out.len; have k3 := HZ2.out.len; rw [k1.2.2.2.2.1, k1.2.2.2.2.2]; simp; omega⟩, hR, HGC.out⟩
        · exact absurd HNM.out (by omega)
        · exact absurd HNM.out (by omega)
        · exact absurd HNM.out (by omega)
        · exact absurd HNM.out (by omega)
        · exact absurd HNM.out (by omega)
theorem sym91 : ∀ K : Nat, SymAt K
  | 0 => by
    intro hr ha hm hb hx hy hlx hly hN hK
    omega
  | K + 1 => by
    intro hr ha hm hb hx hy hlx hly hN hK
    rename_i w g N cap a m b p x y s
    by_cases h1 : x.length = 1
    · obtain ⟨d, rfl⟩ := List.length_eq_one_iff.1 h1
      exact sym91_1 hr ha (by simpa using hm) hb hy hN
    · by_cases h2 : y.length = 1
      · obtain ⟨d, rfl⟩ := List.length_eq_one_iff.1 h2
        exact sym91_2 hr ha hm (by simpa using hb) hx (by omega) hN
      · exact sym91_3 (sym91 K) hr ha hm hb hx hy (by omega) (by omega) hN hK
end Go.Proofs.Ythnjbjlhfohpfaa
