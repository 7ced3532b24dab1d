/-
  The program's reader of changes: a number of a member, the wraps.
-/
import Derived.Test.YtgoghmabhdkdjaaPuW
namespace Go.Proofs.Ytgoghmabhdkdjaa
set_option linter.unusedVariables false
set_option linter.unusedSimpArgs false
set_option synthInstance.maxSize 20000
set_option maxHeartbeats 2000000
set_option maxRecDepth 20000
open Go.RowKit Go.Maps

theorem rCount_len (l : List Int) (k most : Int) (ho : Oct l) : (rCount l k most).2.1.length ≤ l.length := by
  unfold rCount
  split
  · simp
  · exact rNum_len l k ho
theorem rBytes_len (l : List Int) (k most : Int) (ho : Oct l) : (rBytes l k most).2.1.length ≤ l.length := by
  unfold rBytes
  have := rNum_len l k ho
  split
  · simp
  · split
    · simp
    · simp
      omega
theorem rCount_range (l : List Int) (k : Int) {most : Int} (hm : 0 ≤ most) : 0 ≤ (rCount l k most).1 ∧ (rCount l k most).1 ≤ most := by
  unfold rCount
  split
  · simp; omega
  · simp; omega
theorem who64 {w : World} {rb : Nat} {l : List Int} {k : Int} (h : Rdr w rb l k) : Calls Try.prog 64 #[.agg #[ptr rb]] w fun r w' => r = .returned (.int .i64 (rCount l k 7).1) ∧ Rdr w' rb (rCount l k 7).2.1 (rCount l k 7).2.2 ∧ w.grownBy w' (some rb) := by
  have hg : w.grownBy (w.alloc (.cells #[ptr rb] 104)) none := World.grownBy_alloc w _ none
  have H63 : Hid (Calls Try.prog 63 #[ptr rb, .int .i64 7] (w.alloc (.cells #[ptr rb] 104)) fun r w' => r = .returned (.int .i64 (rCount l k 7).1) ∧ Rdr w' rb (rCount l k 7).2.1 (rCount l k 7).2.2 ∧ w.grownBy w' (some rb)) := (show Calls _ _ _ _ _ from by
    refine (rcount_any _ rb l k 7 (h.kept hg) (by omega)).mono ?_
    rintro r w' ⟨rfl, h1, h2⟩
    exact ⟨rfl, h1, grown_none hg h2⟩)
  clear h hg
  go_enter Try.func64, Try.ntmps64
  go_wp2_with (go_at_call 63; go_must (refine H63.out.mono ?_; rintro r w2 ⟨rfl, h1, h2⟩))
  go_ret
  exact ⟨rfl, h1, h2⟩
theorem Rd.pastOwn {w w' : World} {B : Nat} {x v : Value} {l : List Int} {m : List Wq} (h : Rd w x l) (hp : PureRow w v) (hg : w.grownBy w' v.ownBlock) : Rd w' x l := by
  cases hv : v.ownBlock with
  | none => rw [hv] at hg; exact h.kept0 hg
  | some g =>
    rw [hv] at hg
    obtain ⟨vs, h1, h2⟩ := hp g hv
    exact h.pastX h1 h2 hg
/-- The wraps that are taken so far. -/
structure WpSt (w1 wr : World) (rb bb B : Nat) (vo : Value) (acc : List Wq) (l : List Int) (k : Int) : Prop where
  own : OwnW B wr vo acc
  pure : PureRow wr vo
  rdr : Rdr wr rb l k
  each : ∀ q ∈ acc, Rd wr q.2 q.1.b ∧ I64 q.1.w
  grow : w1.grownBy wr (some rb)
  box : wr.cell? ⟨bb, 0, none⟩ = some (ptr rb)
theorem WpSt.rd {w1 wr w2 : World} {rb bb B : Nat} {vo : Value} {acc : List Wq} {l l2 : List Int} {k k2 : Int} (h : WpSt w1 wr rb bb B vo acc l k) (h1 : rb < B) (h2 : bb ≠ rb) (hr : Rdr w2 rb l2 k2) (hg : wr.grownBy w2 (some rb)) : WpSt w1 w2 rb bb B vo acc l2 k2 :=
  ⟨ownsRow_block h.own (fun j hj => hg.block j (h.own.lt j hj).2 (fun e => by have := (OwnW.lt h.own j hj).1; have := Option.some.inj e; omega)), h.pure.past h.own hg h1, hr, fun q hq => ⟨(h.each q hq).1.past h.rdr hg, (h.each q hq).2⟩, grown_trans h.grow hg (fun _ e => .inl e), hg.cell h.box (fun e => h2 (Option.some.inj e))⟩
theorem WpSt.alloc {w1 wr : World} {rb bb B : Nat} {vo : Value} {acc : List Wq} {l : List Int} {k : Int} (h : WpSt w1 wr rb bb B vo acc l k) (ob : Obj) : WpSt w1 (wr.alloc ob) rb bb B vo acc l k := by
  have hb : Below wr.heap.size wr (wr.alloc ob) := balloc (Below.refl _ _) ob
  exact ⟨own_below h.own hb, h.pure.below h.own hb, h.rdr.kept (below_grown hb), fun q hq => ⟨(h.each q hq).1.below hb, (h.each q hq).2⟩, grown_trans h.grow (World.grownBy_alloc wr ob none) (fun _ e => by cases e), (hb.cell (World.block_lt_of_cell? wr _ h.box)).trans h.box⟩
theorem WpSt.snoc {w1 wa w5 : World} {rb bb B : Nat} {vo v5 : Value} {acc : List Wq} {q : Wq} {l : List Int} {k : Int} (h : WpSt w1 wa rb bb B vo acc l k) (h1 : rb < B) (h2 : bb < B) (h3 : w1.heap.size = B) (hq : Rd wa q.2 q.1.b ∧ I64 q.1.w) (ho : OwnW B w5 v5 (acc ++ [q])) (hp : PureRow w5 v5) (hg : wa.grownBy w5 vo.ownBlock) : WpSt w1 w5 rb bb B v5 (acc ++ [q]) l k := by
  refine ⟨ho, hp, h.rdr.pastOwn h.own h.pure hg h1, fun x hx => ?_, grown_trans h.grow hg (fun j e => .inr (by have := (OwnW.lt h.own j e).1; omega)), hg.cell h.box (fun e => by have := (OwnW.lt h.own bb e.symm).1; omega)⟩
  rcases List.mem_append.1 hx with hx | hx
  · exact ⟨Rd.pastOwn (B := B) (m := acc) (h.each x hx).1 h.pure hg, (h.each x hx).2⟩
  · simp at hx
    subst hx
    exact ⟨Rd.pastOwn (B := B) (m := acc) hq.1 h.pure hg, hq.2⟩
set_option maxHeartbeats 4000000 in
theorem wraps66 {w : World} {rb : Nat} {l : List Int} {k : Int} (h : Rdr w rb l k) (hl : l.length ≤ 1000000) : Calls Try.prog 66 #[.agg #[ptr rb]] w fun r w' => ∃ x n c qs, r = .returned (.slice x n c) ∧ OwnW (w.heap.size + 1) w' (.slice x n c) qs ∧ (∀ q ∈ qs, Rd w' q.2 q.1.b ∧ I64 q.1.w) ∧ qs.map (·.1) = (wsOf l k).1 ∧ Rdr w' rb (wsOf l k).2.1 (wsOf l k).2.2 ∧ (wsOf l k).2.1.length ≤ l.length ∧ w.grownBy w' (some rb) := by
  have hlt := h.lt
  have HLt : Hid (rb < w.heap.size) := hlt
  obtain ⟨w1, hw1⟩ : ∃ w1, w1 = w.alloc (.cells #[ptr rb] 104) := ⟨_, rfl⟩
  have HW1 : Hid (w1 = w.alloc (.cells #[ptr rb] 104)) := hw1
  have hg1 : w.grownBy w1 none := by rw [hw1]; exact World.grownBy_alloc w _ none
  have HG1 : Hid (w.grownBy w1 none) := hg1
  have HS1 : Hid (w1.heap.size = w.heap.size + 1) := (show _ = _ by rw [hw1]; simp)
  have hbx : w1.cell? ⟨w.heap.size, 0, none⟩ = some (ptr rb) := by rw [hw1]; exact (blk_new w [ptr rb] 104).cell 0 _ rfl
  have HBx : Hid (w1.cell? ⟨w.heap.size, 0, none⟩ = some (ptr rb)) := hbx
  obtain ⟨N, hN⟩ : ∃ N : Nat, (rCount l k 8).1 = (N : Int) := ⟨(rCount l k 8).1.toNat, by have := rCount_range l k (most := 8) (by omega); omega⟩
  have hN8 : N ≤ 8 := by have := rCount_range l k (most := 8) (by omega); omega
  obtain ⟨L0, hL0⟩ : ∃ L0, L0 = (rCount l k 8).2.1 := ⟨_, rfl⟩
  obtain ⟨K0, hK0⟩ : ∃ K0, K0 = (rCount l k 8).2.2 := ⟨_, rfl⟩
  have HWs : Hid (wsOf l k = takeWs N L0 K0) := (show _ = _ by unfold wsOf; rw [hN, hL0, hK0]; rfl)
  have HLl : Hid (L0.length ≤ l.length) := (show _ ≤ _ by rw [hL0]; exact rCount_len l k 8 h.oct)
  have H63 : Hid (Calls Try.prog 63 #[ptr rb, .int .i64 8] w1 fun r w' => r = .returned (.int .i64 (N : Int)) ∧ Rdr w' rb L0 K0 ∧ w1.grownBy w' (some rb)) := (show Calls _ _ _ _ _ from by
    refine (rcount_any _ rb l k 8 (h.kept hg1) (by omega)).mono ?_
    rintro r w' ⟨rfl, h1, h2⟩
    rw [hN, ← hL0, ← hK0] at *
    exact ⟨rfl, h1, h2⟩)
  clear h hlt hw1 hg1 hN hL0 hK0
  go_enter Try.func66, Try.ntmps66
  go_upto_region 1 with fail
  rw [← HW1.out]
  go_wp2_with (go_at_call 63; go_must (refine H63.out.mono ?_; rintro r w2 ⟨rfl, h1, h2⟩))
  have HSt : Hid (WpSt w1 w2 rb w.heap.size (w.heap.size + 1) (.slice none 0 0) [] L0 K0) := (show WpSt _ _ _ _ _ _ _ _ _ from ⟨World.ownsRow_nil _ _ _ _, pure_nil _, h1, (fun q hq => by cases hq), h2, h2.cell HBx.out (fun e => by have h5 := HLt.out; have h6 : w.heap.size = rb := Option.some.inj e; omega)⟩)
  clear h1 h2 H63 hbx
  go_loopw [3, 7] (fun vo iv wr => ∃ (i : Nat) (acc : List Wq) (li : List Int) (ki : Int) (oa : Option Addr) (oq : Nat), iv = .int .i64 i ∧ i ≤ N ∧ vo = .slice oa i oq ∧ Hid (WpSt w1 wr rb w.heap.size (w.heap.size + 1) (.slice oa i oq) acc li ki) ∧ Hid (acc.length = i ∧ li.length ≤ l.length) ∧ Hid (takeWs N L0 K0 = (acc.map (·.1) ++ (takeWs (N - i) li ki).1, (takeWs (N - i) li ki).2))) (fun _ iv _ => N - (intOf iv).toNat)
  case atStart => exact ⟨0, [], L0, K0, none, 0, rfl, by omega, rfl, HSt, ⟨rfl, HLl.out⟩, (show _ = _ by simp)⟩
  case round =>
    clear HSt
    obtain ⟨i, acc, li, ki, oa, oq, rfl, hi, rfl, HSt, HAc, HTk⟩ := hrel
    by_cases hin : i < N
    · obtain ⟨cnt, hcnt⟩ : ∃ cnt, cnt = (rCount li ki 7).1 := ⟨_, rfl⟩
      obtain ⟨l2, hl2⟩ : ∃ l2, l2 = (rCount li ki 7).2.1 := ⟨_, rfl⟩
      obtain ⟨k2, hk2⟩ : ∃ k2, k2 = (rCount li ki 7).2.2 := ⟨_, rfl⟩
      obtain ⟨bs, hbs⟩ : ∃ bs, bs = (rBytes l2 k2 16).1 := ⟨_, rfl⟩
      obtain ⟨l3, hl3⟩ : ∃ l3, l3 = (rBytes l2 k2 16).2.1 := ⟨_, rfl⟩
      obtain ⟨k3, hk3⟩ : ∃ k3, k3 = (rBytes l2 k2 16).2.2 := ⟨_, rfl⟩
      have hoct := HSt.out.rdr.oct
      have HL2 : Hid (l2.length ≤ l.length) := (show _ ≤ _ by rw [hl2]; have := rCount_len li ki 7 hoct; have := HAc.out.2; omega)
      have HL3 : Hid (l3.length ≤ l.length) := (show _ ≤ _ by rw [hl3]; have := rBytes_len l2 k2 16 (by rw [hl2]; exact oct_rCount hoct); have := HL2.out; omega)
      have HCn : Hid (I64 cnt) := (show I64 _ by have := rCount_range li ki (most := 7) (by omega); rw [← hcnt] at this; unfold I64; omega)
      have HTk2 : Hid (takeWs N L0 K0 = ((acc ++ [((⟨cnt, bs⟩ : Wp), Value.bool true)]).map (·.1) ++ (takeWs (N - (i + 1)) l3 k3).1, (takeWs (N - (i + 1)) l3 k3).2)) := (show _ = _ by
        rw [HTk.out, show N - i = (N - (i + 1)) + 1 by omega, takeWs, ← hcnt, ← hl2, ← hk2, ← hbs, ← hl3, ← hk3]
        simp)
      have H64 : Hid (∀ w', WpSt w1 w' rb w.heap.size (w.heap.size + 1) (.slice oa i oq) acc li ki → Calls Try.prog 64 #[.agg #[ptr rb]] w' fun r w'' => r = .returned (.int .i64 cnt) ∧ WpSt w1 w'' rb w.heap.size (w.heap.size + 1) (.slice oa i oq) acc l2 k2) := fun w' hs => by
        refine (who64 hs.rdr).mono ?_
        rintro r w'' ⟨rfl, h1, h2⟩
        rw [← hcnt, ← hl2, ← hk2] at *
        exact ⟨rfl, hs.rd (by have := HLt.out; omega) (by have := HLt.out; omega) h1 h2⟩
      have H67 : Hid (∀ w', WpSt w1 w' rb w.heap.size (w.heap.size + 1) (.slice oa i oq) acc l2 k2 → Calls Try.prog 67 #[ptr rb, .int .i64 16] w' fun r w'' => ∃ x n c, r = .returned (.slice x n c) ∧ Rd w'' (.slice x n c) bs ∧ WpSt w1 w'' rb w.heap.size (w.heap.size + 1) (.slice oa i oq) acc l3 k3) := fun w' hs => by
        refine (rbytes_any w' rb l2 k2 16 hs.rdr (by have := HL2.out; omega) (by omega)).mono ?_
        rintro r w'' ⟨v, rfl, h0, h1, h2⟩
        rw [← hbs] at h0
        rw [← hl3, ← hk3] at h1
        obtain ⟨x, c, e⟩ := h0.len
        subst e
        exact ⟨x, _, c, rfl, h0, hs.rd (by have := HLt.out; omega) (by have := HLt.out; omega) h1 h2⟩
      have HSt2 : Hid (WpSt w1 wr.drew rb w.heap.size (w.heap.size + 1) (.slice oa i oq) acc li ki) := (show WpSt _ _ _ _ _ _ _ _ _ from ⟨HSt.out.own, HSt.out.pure, ⟨HSt.out.rdr.left, HSt.out.rdr.wrong, HSt.out.rdr.f0, HSt.out.rdr.f1, HSt.out.rdr.two, HSt.out.rdr.gone⟩, HSt.out.each, ⟨HSt.out.grow.os, HSt.out.grow.tape, HSt.out.grow.output, HSt.out.grow.size, HSt.out.grow.block⟩, HSt.out.box⟩)
      clear hcnt hl2 hk2 hbs hl3 hk3 hoct
      have z0 := fun z : WIn (fun w' => w'.cell? ⟨w.heap.size, 0, none⟩ = some (ptr rb)) => z.ok
      have ne : Nonempty (WIn (fun w' => w'.cell? ⟨w.heap.size, 0, none⟩ = some (ptr rb))) := ⟨⟨w1, HBx.out⟩⟩
      go_upto_region 4 with fail
      refine wp_region_ord (C := fun w' => ∃ z : WIn (fun w' => w'.cell? ⟨w.heap.size, 0, none⟩ = some (ptr rb)), w' = z.w) [(false, 0), (false, 1), (false, 3), (false, 4), (true, 2), (true, 5), (false, 6), (true, 7), (true, 8), (false, 9)] (by kernel_rfl) (by kernel_rfl) ⟨⟨wr.drew, HSt2.out.box⟩, rfl⟩ ?_
      iterate 4 (refine ord_still rfl rfl ?_; go_big_quiet_step (fail); refine wpQuiet_nil ?_)
      refine ord_mem rfl rfl ?_
      go_simp
      refine (H64.out wr.drew HSt2.out).mono ?_
      rintro r w3 ⟨rfl, h3⟩
      have HS3 : Hid (WpSt w1 w3 rb w.heap.size (w.heap.size + 1) (.slice oa i oq) acc l2 k2) := h3
      clear h3
      refine ⟨⟨⟨_, HS3.out.box⟩, rfl⟩, ?_⟩
      go_simp
      refine ord_mem rfl rfl ?_
      go_simp
      refine (H67.out w3 HS3.out).mono ?_
      rintro r w4 ⟨x4, n4, c4, rfl, h4, h5⟩
      have HR4 : Hid (Rd w4 (.slice x4 n4 c4) bs) := h4
      have HS4 : Hid (WpSt w1 w4 rb w.heap.size (w.heap.size + 1) (.slice oa i oq) acc l3 k3) := h5
      clear h4 h5
      refine ⟨⟨⟨_, HS4.out.box⟩, rfl⟩, ?_⟩
      go_simp
      iterate 1 (refine ord_still rfl rfl ?_; go_big_quiet_step (fail); refine wpQuiet_nil ?_)
      refine ord_mem rfl rfl ?_
      go_simp
      have HS5 : Hid (WpSt w1 (w4.alloc (.cells #[.int .i64 cnt, .slice x4 n4 c4] 81)) rb w.heap.size (w.heap.size + 1) (.slice oa i oq) acc l3 k3) := (show WpSt _ _ _ _ _ _ _ _ _ from HS4.out.alloc _)
      have HR5 : Hid (Rd (w4.alloc (.cells #[.int .i64 cnt, .slice x4 n4 c4] 81)) (.slice x4 n4 c4) bs) := (show Rd _ _ _ from HR4.out.below (balloc (Below.refl _ _) _))
      refine ⟨⟨⟨_, HS5.out.box⟩, rfl⟩, ?_⟩
      go_simp
      refine ord_mem rfl rfl ?_
      refine wp_of_list rfl ?_
      obtain ⟨v6, w6, hrun, ho6, hp6, hg6, _⟩ := run_append_pure 35 Try.underlying35 (w4.alloc (.cells #[.int .i64 cnt, .slice x4 n4 c4] 81)) (w.heap.size + 1) (.slice oa i oq) acc ((⟨cnt, bs⟩ : Wp), Value.slice x4 n4 c4) w4.heap.size HS5.out.own HS5.out.pure (blk_new w4 [.int .i64 cnt, .slice x4 n4 c4] 81) ⟨_, _, _, rfl⟩ (by have := HAc.out.1; omega) (by
        have h1 := HS5.out.grow.size
        have h2 := HS1.out
        omega)
      obtain ⟨a6, q6, hv6, _⟩ := slice_of_own ho6
      have hlz : (acc ++ [((⟨cnt, bs⟩ : Wp), Value.slice x4 n4 c4)]).length = i + 1 := by rw [List.length_append, HAc.out.1]; rfl
      rw [hlz] at hv6
      subst hv6
      have HS6 : Hid (WpSt w1 w6 rb w.heap.size (w.heap.size + 1) (.slice a6 (i + 1) q6) (acc ++ [((⟨cnt, bs⟩ : Wp), Value.slice x4 n4 c4)]) l3 k3) := (show WpSt _ _ _ _ _ _ _ _ _ from HS5.out.snoc (by have := HLt.out; omega) (by omega) HS1.out ⟨HR5.out, HCn.out⟩ ho6 hp6 hg6)
      have HA6 : Hid ((acc ++ [((⟨cnt, bs⟩ : Wp), Value.slice x4 n4 c4)]).length = i + 1 ∧ l3.length ≤ l.length) := ⟨hlz, HL3.out⟩
      have HT6 : Hid (takeWs N L0 K0 = ((acc ++ [((⟨cnt, bs⟩ : Wp), Value.slice x4 n4 c4)]).map (·.1) ++ (takeWs (N - (i + 1)) l3 k3).1, (takeWs (N - (i + 1)) l3 k3).2)) := (show _ = _ by rw [HTk2.out]; simp)
      refine wpList_append_at rfl (.tmp 9) (.tmp 16) 35 35 rfl _ _ rfl rfl hrun ?_
      clear hrun ho6 hp6 hg6 hlz
      refine ⟨rfl, ⟨⟨_, HS6.out.box⟩, rfl⟩, ?_⟩
      go_simp
      iterate 1 (refine ord_still rfl rfl ?_; go_big_quiet_step (fail); refine wpQuiet_nil ?_)
      refine ord_end ?_
      clear z0 ne
      go_wp2
      go_roundw
      case rel => exact ⟨i + 1, _, l3, k3, a6, q6, by go_num, by omega, rfl, HS6, HA6, HT6⟩
      case measure => simp [intOf]; omega
    · have HE : Hid (wsOf l k = (acc.map (·.1), li, ki)) := (show _ = _ by
        rw [HWs.out, HTk.out, show N - i = 0 by omega]
        simp [takeWs])
      have HGw : Hid (w.grownBy wr (some rb)) := (show World.grownBy _ _ _ from grown_none HG1.out HSt.out.grow)
      go_wp2
      go_ret
      rw [HE.out]
      exact ⟨oa, i, oq, acc, rfl, HSt.out.own, HSt.out.each, rfl, HSt.out.rdr, HAc.out.2, HGw.out⟩
end Go.Proofs.Ytgoghmabhdkdjaa
