/-
  The reference of layer 10: Lists, Parts, four, number, Frame.
-/
import Derived.Test.YtkcighejmjgalaaDoorScn3
namespace Go.Proofs.YtkcighejmjgalaaDoor
set_option linter.unusedVariables false
set_option linter.unusedSimpArgs false
set_option synthInstance.maxSize 20000
set_option maxHeartbeats 2000000
set_option maxRecDepth 20000
open Go.RowKit Go.Maps

/-- Two cells that hold. -/
structure TwoC (b1 o1 b2 o2 : Nat) (v1 v2 : Value) (w : World) : Prop where
  c1 : w.cell? ⟨b1, o1, none⟩ = some v1
  c2 : w.cell? ⟨b2, o2, none⟩ = some v2
theorem TwoC.below {b1 o1 b2 o2 : Nat} {v1 v2 : Value} {w w' : World} (h : TwoC b1 o1 b2 o2 v1 v2 w) (hb : Below w.heap.size w w') : TwoC b1 o1 b2 o2 v1 v2 w' :=
  ⟨(hb.cell (World.block_lt_of_cell? w _ h.c1)).trans h.c1, (hb.cell (World.block_lt_of_cell? w _ h.c2)).trans h.c2⟩
theorem lists12 {w : World} {v1 v2 : Value} {ps qs : List VB} (hp : RL w v1 ps) (hq : RL w v2 qs) (hl : ps.length ≤ 1000) : Calls Tryd.prog 37 #[v1, v2] w fun r w' => r = .returned (.bool (decide (LL ps = LL qs))) ∧ Below w.heap.size w w' := by
  obtain ⟨a1, c1, rfl⟩ := hp.len
  obtain ⟨a2, c2, rfl⟩ := hq.len
  have hc1 := hp.row.caps
  have hc2 := hq.row.caps
  by_cases he : ps.length = qs.length
  · have hne : ((ps.length : Int) != (qs.length : Int)) = false := by simp [he]
    have HP : Hid (RL w (.slice a1 ps.length c1) ps) := hp
    have HQ : Hid (RL w (.slice a2 qs.length c2) qs) := hq
    have HE : Hid (ps.length = qs.length) := he
    obtain ⟨m, hm⟩ : ∃ m, m = ps.length := ⟨_, rfl⟩
    have HM : Hid (m = ps.length) := hm
    rw [← he, ← hm] at hne hc2
    rw [← he, ← hm]
    rw [← hm] at hl hc1
    have b1 : m ≤ c1 := hc1.2.1
    have b2 : c1 ≤ 9223372036854775807 := hc1.2.2
    have b3 : m ≤ c2 := hc2.2.1
    have b4 : c2 ≤ 9223372036854775807 := hc2.2.2
    clear hc1 hc2 hp hq he hm
    go_enter Tryd.func37, Tryd.ntmps37
    go_wp2
    go_loopw [5] (fun kv wr => ∃ (k : Nat), k ≤ m ∧ kv = .int .i64 k ∧ Hid ((LL ps).take k = (LL qs).take k) ∧ Hid (Below w.heap.size w wr)) (fun kv _ => m - (intOf kv).toNat)
    case atStart => exact ⟨0, Nat.zero_le _, rfl, rfl, Below.refl _ _⟩
    case round =>
      obtain ⟨k, hk, rfl, hT, hB⟩ := hrel
      by_cases hlt : k < m
      · obtain ⟨p, hp⟩ : ∃ p, ps[k]? = some p := ⟨_, List.getElem?_eq_getElem (by rw [← HM.out]; exact hlt)⟩
        obtain ⟨q, hq⟩ : ∃ q, qs[k]? = some q := ⟨_, List.getElem?_eq_getElem (by rw [← HE.out, ← HM.out]; exact hlt)⟩
        have rp := HP.out.below hB.out
        have rq := HQ.out.below hB.out
        obtain ⟨bp, op, rfl, cp⟩ := rp.at hp
        obtain ⟨bq, oq, rfl, cq⟩ := rq.at hq
        have hrp := rp.rd p (List.mem_of_getElem? hp)
        have hrq := rq.rd q (List.mem_of_getElem? hq)
        have HC0 := same_any _ _ _ _ wr.drew hrp.drewn hrq.drewn
        obtain ⟨ap, kp, hpv⟩ := hrp.len
        obtain ⟨aq, kq, hqv⟩ := hrq.len
        rw [hpv] at cp HC0
        rw [hqv] at cq HC0
        have hpL := LL_at hp
        have hqL := LL_at hq
        have T0 : TwoC bp (op + k) bq (oq + k) (.slice ap p.2.length kp) (.slice aq q.2.length kq) wr.drew := ⟨cp, cq⟩
        have ne : Nonempty (WIn (TwoC bp (op + k) bq (oq + k) (.slice ap p.2.length kp) (.slice aq q.2.length kq))) := ⟨⟨_, T0⟩⟩
        have e1 : ∀ z : WIn (TwoC bp (op + k) bq (oq + k) (.slice ap p.2.length kp) (.slice aq q.2.length kq)), z.w.cell? ⟨bp, op + k, none⟩ = some (.slice ap p.2.length kp) := fun z => z.ok.c1
        have e2 : ∀ z : WIn (TwoC bp (op + k) bq (oq + k) (.slice ap p.2.length kp) (.slice aq q.2.length kq)), z.w.cell? ⟨bq, oq + k, none⟩ = some (.slice aq q.2.length kq) := fun z => z.ok.c2
        have HT0 : Hid (TwoC bp (op + k) bq (oq + k) (.slice ap p.2.length kp) (.slice aq q.2.length kq) wr.drew) := T0
        have HC : Hid (Calls Tryd.prog 21 #[.slice ap p.2.length kp, .slice aq q.2.length kq] wr.drew fun e w' => e = .returned (.bool (decide (p.2 = q.2))) ∧ Below wr.drew.heap.size wr.drew w') := HC0
        have HBd : Hid (Below w.heap.size w wr.drew) := hB.out.drew
        have hpq : Hid ((p.2 = q.2 → (LL ps).take (k + 1) = (LL qs).take (k + 1)) ∧ (¬ p.2 = q.2 → ¬ LL ps = LL qs)) := ⟨fun h => ll_take_snoc hT.out hpL hqL h, fun h e => h (by rw [e, hqL] at hpL; exact (Option.some.inj hpL).symm)⟩
        clear rp rq hp hq hpL hqL hpv hqv hrp hrq HC0 cp cq T0
        go_upto_region 6 with fail
        refine wp_region_tree (C := fun w' => ∃ z : WIn (TwoC bp (op + k) bq (oq + k) (.slice ap p.2.length kp) (.slice aq q.2.length kq)), w' = z.w) (.still 0 (.still 1 (.still 2 (.still 3 (.still 4 (.still 5 (.still 6 (.still 7 (.one 8 (.still 9 .done)))))))))) (by kernel_rfl) (by kernel_rfl) ⟨⟨wr.drew, HT0.out⟩, rfl⟩ ?_
        generalize wr.drew = wd at *
        iterate 8 (refine tree_still rfl rfl ?_; go_big_quiet_step (fail); refine wpQuiet_nil ?_)
        refine tree_one rfl rfl ?_
        go_simp
        refine HC.out.mono ?_
        rintro r w3 ⟨rfl, hb3⟩
        have HT3 : Hid (TwoC bp (op + k) bq (oq + k) (.slice ap p.2.length kp) (.slice aq q.2.length kq) w3) := HT0.out.below hb3
        have HB3 : Hid (Below w.heap.size w w3) := bnext HBd.out hb3
        clear hb3
        refine ⟨⟨⟨w3, HT3.out⟩, rfl⟩, ?_⟩
        refine tree_still rfl rfl ?_
        go_big_quiet_step (fail)
        refine wpQuiet_nil ?_
        refine tree_done ?_
        clear e1 e2 ne
        by_cases h9 : p.2 = q.2
        · have hd : decide (p.2 = q.2) = true := decide_eq_true h9
          have HT4 : Hid ((LL ps).take (k + 1) = (LL qs).take (k + 1)) := hpq.out.1 h9
          clear h9
          generalize decide (p.2 = q.2) = dd at *
          subst hd
          go_wp2
          go_roundw
          case rel => exact ⟨k + 1, by omega, by go_num, HT4, HB3⟩
          case measure => simp [intOf]; omega
        · have hd : decide (p.2 = q.2) = false := decide_eq_false h9
          have HN : Hid (¬ LL ps = LL qs) := hpq.out.2 h9
          clear h9
          generalize decide (p.2 = q.2) = dd at *
          subst hd
          go_wp2
          go_ret
          refine ⟨?_, HB3.out⟩
          rw [decide_eq_false HN.out]
          rfl
      · obtain rfl : k = m := by omega
        have HN : Hid (LL ps = LL qs) := by
          have := hT.out
          rwa [List.take_of_length_le (by rw [LL_len, HM.out]; exact Nat.le_refl _), List.take_of_length_le (by rw [LL_len, ← HE.out, HM.out]; exact Nat.le_refl _)] at this
        go_wp2
        go_ret
        refine ⟨?_, hB.out⟩
        rw [decide_eq_true HN.out]
        rfl
  · have hne : ((ps.length : Int) != (qs.length : Int)) = true := by simp; omega
    have HN : Hid (¬ LL ps = LL qs) := fun e => he (by rw [← LL_len, e, LL_len])
    rw [decide_eq_false HN.out]
    clear hp hq
    go_enter Tryd.func37, Tryd.ntmps37
    go_wp2
    go_ret
    exact ⟨rfl, Below.refl _ _⟩

theorem rparts14 (n : Int) (w : World) (hn : I64 n) : Calls Tryd.prog 9 #[.int .i64 n] w fun r w' => r = .returned (.int .i64 (partsI n)) ∧ w' = w := by
  obtain ⟨n0, n1⟩ := hn
  by_cases h : n < 0
  · have e : partsI n = 0 := by unfold partsI; rw [if_pos (.inl h)]
    rw [e]
    clear e
    go_enter Tryd.func9, Tryd.ntmps9
    go_wp2
    go_ret
    exact ⟨rfl, rfl⟩
  · by_cases h2 : 4000 < n
    · have e : partsI n = 0 := by unfold partsI; rw [if_pos (.inr h2)]
      rw [e]
      clear e
      go_enter Tryd.func9, Tryd.ntmps9
      go_wp2
      go_ret
      exact ⟨rfl, rfl⟩
    · by_cases h3 : n = 0
      · subst h3
        have e : partsI 0 = 1 := rfl
        rw [e]
        go_enter Tryd.func9, Tryd.ntmps9
        go_wp2
        go_ret
        exact ⟨rfl, rfl⟩
      · have E : Hid (partsI n = (n + 47) / 48) := by
          show partsI n = _
          unfold partsI
          rw [if_neg (by omega), if_neg h3]
        rw [E.out]
        have h3' : (n == 0) = false := by simpa using h3
        clear E h3
        go_enter Tryd.func9, Tryd.ntmps9
        go_wp2
        go_ret
        exact ⟨rfl, rfl⟩
theorem four36 (n : Int) (w : World) (hn : U32 n) : Calls Tryd.prog 78 #[.int .u32 n] w fun r w' => r = .returned (.slice (some ⟨w.heap.size, 0, none⟩) 4 4) ∧ Rd w' (.slice (some ⟨w.heap.size, 0, none⟩) 4 4) (be4 n) ∧ Below w.heap.size w w' := by
  have hr : Rd (w.alloc (.cells (cs8 (be4 n)).toArray 5)) (.slice (some ⟨w.heap.size, 0, none⟩) 4 4) (be4 n) := by
    refine ⟨be4_oct hn, some ⟨w.heap.size, 0, none⟩, 4, rfl, Nat.le_refl _, by unfold maxLen; omega, (fun h => by cases h), fun _ => ⟨w.heap.size, 0, rfl, fun j hj => ?_⟩⟩
    exact (blk_new w (cs8 (be4 n)) 5).cell _ _ (by rw [Nat.zero_add]; exact cs8_at _ _ hj)
  have HR : Hid (Rd (w.alloc (.cells #[.int .u8 (n / 16777216), .int .u8 (n / 65536 % 256), .int .u8 (n / 256 % 256), .int .u8 (n % 256)] 5)) (.slice (some ⟨w.heap.size, 0, none⟩) 4 4) (be4 n) ∧ Below w.heap.size w (w.alloc (.cells #[.int .u8 (n / 16777216), .int .u8 (n / 65536 % 256), .int .u8 (n / 256 % 256), .int .u8 (n % 256)] 5))) := ⟨hr, balloc (Below.refl _ _) _⟩
  obtain ⟨n0, n1⟩ := hn
  clear hr
  go_enter Tryd.func78, Tryd.ntmps78
  go_wp2
  go_ret
  exact ⟨rfl, HR.out.1, HR.out.2⟩
end Go.Proofs.YtkcighejmjgalaaDoor
