/-
  The tree plays as the reference: the law walked.
-/
import Derived.Test.YtjlpdoomchkfgaaLwU
import Derived.Test.YtjlpdoomchkfgaaRfD
import Derived.Test.YtjlpdoomchkfgaaTrH
namespace Go.Proofs.Ytjlpdoomchkfgaa
set_option linter.unusedVariables false
set_option linter.unusedSimpArgs false
set_option synthInstance.maxSize 20000
set_option maxHeartbeats 2000000
set_option maxRecDepth 20000
open Go.RowKit Go.Maps

/-- Both trees, told by the same items. -/
structure Both (w : World) (tb rb : Nat) (mo : Option Nat) (v : Value) (L L2 : List IT) (M : List IM) : Prop where
  p : PTr w tb mo L
  r : RTr w rb v L2
  pm : L.map IT.m = M
  rm : L2.map IT.m = M
  gd : Gd M
  few : M.length ≤ 60
section
variable {w w' : World} {tb rb : Nat} {mo mo' : Option Nat} {v : Value} {a : Option Addr} {n c : Nat} {L L2 : List IT} {M : List IM}
theorem Both.below (h : Both w tb rb mo v L L2 M) (hb : Below w.heap.size w w') : Both w' tb rb mo v L L2 M := ⟨h.p.below hb, h.r.below hb, h.pm, h.rm, h.gd, h.few⟩
theorem Both.lp (h : Both w tb rb mo v L L2 M) : L.length = M.length := by rw [← h.pm, List.length_map]
theorem Both.lr (h : Both w tb rb mo v L L2 M) : L2.length = M.length := by rw [← h.rm, List.length_map]
theorem RTr.tw (h : RTr w rb (.slice a n c) L2) (ht : Tw tb mo w w' mo') (hP : PTr w tb mo L) : RTr w' rb (.slice a n c) L2 := ⟨Tw.blk (v := .slice a n c) ht hP h.blk (fun m => by simp), ht.rowF hP ic_head h.row, fun x hx => ht.rd hP (h.rd x hx)⟩
theorem PTr.pastRef (h : PTr w tb mo L) (hi : Blk w rb 32 [.slice a n c]) (hg : w.grownBy w' (some rb)) : PTr w' tb mo L := by
  have ha := h.apart (Blk.cell hi 0 _ rfl) (fun m => by simp)
  exact ⟨h.blk.past hg (fun e => ha.1 e.symm), h.mp.imp id (fun ⟨mb, e, hm⟩ => ⟨mb, e, hm.block (hg.block mb hm.lt (fun e2 => ha.2 (by rw [e]; exact e2)))⟩), h.ok, fun z hz => rd_past (h.rd z hz) hi (fun n => by simp) hg, h.srt, h.few⟩
theorem Both.was (h : Both w tb rb mo v L L2 M) : Was w v L2 := ⟨h.r.row, h.r.rd⟩
theorem Both.slice (h : Both w tb rb mo v L L2 M) : ∃ a c, v = .slice a L.length c := by
  obtain ⟨a, c, e⟩ := h.r.row.len
  exact ⟨a, c, by rw [e, h.lr, h.lp]⟩
/-- What both trees' kids are told by. -/
theorem kids_was (h : Both w tb rb mo v L L2 M) (n : S) : Calls Try.prog 26 #[ptr rb, sv n] w fun e w' => ∃ v' X, e = .returned v' ∧ Was w' v' X ∧ X.map IT.m = M.filter (kidM n) ∧ Below w.heap.size w w' := by
  refine (kids26 h.r (by have := h.lr; have := h.few; omega) n).mono ?_
  rintro e w' ⟨v', rfl, ho, hb⟩
  refine ⟨v', _, rfl, ⟨ho.row, fun x hx => ((h.r.rd x (List.mem_filter.1 hx).1).below hb)⟩, ?_, hb⟩
  rw [kidsM_map, h.rm]
  rfl
theorem pkids_was (h : Both w tb rb mo v L L2 M) (n : S) : Calls Try.prog 25 #[ptr tb, sv n] w fun e w' => ∃ v' X, e = .returned v' ∧ Was w' v' X ∧ X.map IT.m = M.filter (kidM n) ∧ Below w.heap.size w w' := by
  refine (kids25 h.p (by have := h.lp; have := h.few; omega) n).mono ?_
  rintro e w' ⟨v', X, rfl, ho, hm, hown, hb⟩
  exact ⟨v', X, rfl, ⟨ho.row, fun x hx => (hown x hx).rd⟩, by rw [hm, h.pm], hb⟩
theorem pall_was (h : Both w tb rb mo v L L2 M) : Calls Try.prog 17 #[ptr tb] w fun e w' => ∃ v' X, e = .returned v' ∧ Was w' v' X ∧ X.map IT.m = M ∧ Below w.heap.size w w' := by
  refine (all17w h.p (by have := h.lp; have := h.few; omega)).mono ?_
  rintro e w' ⟨v', X, rfl, ho, hm, _, hb⟩
  exact ⟨v', X, rfl, ho, by rw [hm, h.pm], hb⟩
theorem same13e {x y : IT} (hx : Rd w x.v x.m.b) (hy : Rd w y.v y.m.b) (e : x.m = y.m) : Calls Try.prog 13 #[iv x, iv y] w fun e w' => e = .returned (.bool true) ∧ Below w.heap.size w w' := by
  have := rsame13 hx hy
  rwa [e, sameI_refl] at this
theorem pin21 (h : Both w tb rb mo v L L2 M) {n m : S} (hn : SOk n) (hm : SOk m) : Calls Try.prog 21 #[ptr tb, sv n, sv m] w fun e w' => e = .returned (.bool (withinM M 301 n m)) ∧ Below w.heap.size w w' := by
  have := within21 h.p hn hm
  rwa [h.pm, h.gd.pw (by have := h.few; omega)] at this
theorem rin22 (h : Both w tb rb mo v L L2 M) (n m : S) : Calls Try.prog 22 #[ptr rb, sv n, sv m] w fun e w' => e = .returned (.bool (withinM M 301 n m)) ∧ Below w.heap.size w w' := by
  have := within22 h.r n m
  rwa [h.rm] at this
theorem pha23 (h : Both w tb rb mo v L L2 M) {n : S} (hn : SOk n) : Calls Try.prog 23 #[ptr tb, sv n] w fun e w' => e = .returned (.bool (hangsM M 301 n)) ∧ Below w.heap.size w w' := by
  have := hangs23 h.p hn
  rwa [h.pm, h.gd.ph (by have := h.few; omega)] at this
theorem rha24 (h : Both w tb rb mo v L L2 M) (n : S) : Calls Try.prog 24 #[ptr rb, sv n] w fun e w' => e = .returned (.bool (hangsM M 301 n)) ∧ Below w.heap.size w w' := by
  have := hangs24 h.r n
  rwa [h.rm] at this
theorem blk_lt_ne {b k : Nat} {e : TypeId} {vs : List Value} (hb : Blk w b e vs) (hk : w.heap.size ≤ k) : b ≠ k := by
  have := Blk.lt hb
  omega
end
set_option maxHeartbeats 16000000 in
theorem plays3 (v : Value) (l : List OpT) (n m : S) (W : World) (rd : RowF oc W v l) (en : ∀ q ∈ l, QIn W q) (hn : SOk n) (hm : SOk m) : Calls Try.prog 3 #[v, sv n, sv m] W fun e W' => e = .returned (.bool true) ∧ Below W.heap.size W W' := by
  obtain ⟨a0, c0, rfl⟩ := rd.len
  have hcap := rd.caps
  have HRD : Hid (RowF oc W (.slice a0 l.length c0) l) := rd
  have HEN : Hid (∀ q ∈ l, Rd W q.v q.b) := fun q hq => (en q hq).rd
  have HAl : Hid (∀ w', Calls Try.prog 9 #[] w' fun e w'' => e = .returned (.bool true) ∧ Below w'.heap.size w' w'') := alive9
  have HSn : Hid (SOk n ∧ SOk m) := ⟨hn, hm⟩
  obtain ⟨w1, hw1⟩ : ∃ w1, w1 = (W.alloc (.cells (sc n).toArray 24)).alloc (.cells (sc m).toArray 24) := ⟨_, rfl⟩
  obtain ⟨B0, hB0⟩ : ∃ B0, B0 = W.heap.size := ⟨_, rfl⟩
  obtain ⟨B1, hB1⟩ : ∃ B1, B1 = W.heap.size + 1 := ⟨_, rfl⟩
  obtain ⟨i1, i2, i3, i4, i5⟩ := two_stamps hw1 hB0 hB1
  have HB1 : Hid (Below W.heap.size W w1) := i1
  have HN : Hid (∀ w', Below w1.heap.size w1 w' → w'.rangeAt B0 0 (sc n)) := fun w' hb => (i2.below hb).range0
  have HM : Hid (∀ w', Below w1.heap.size w1 w' → w'.rangeAt B1 0 (sc m)) := fun w' hb => (i3.below hb).range0
  have HLt : Hid (Calls Try.prog 8 #[.slice a0 l.length c0, .int .i64 60] w1 fun e w' => e = .returned (.bool (lightB l 60)) ∧ w' = w1) := light8 (rd.below i1) (by omega)
  clear rd en hcap i1 i2 i3 i4 i5 hn hm
  go_enter Try.func3, Try.ntmps3
  go_upto_region 1 with (first | (refine wpList_okw rfl (exec_box24 (n := n) (.tmp 1) rfl rfl) ?_) | (refine wpList_okw rfl (exec_box24 (n := m) (.tmp 2) rfl rfl) ?_))
  rw [← hw1, ← hB1]
  rw [← hB0]
  clear hw1 hB0 hB1
  cases hlb : lightB l 60
  · rw [hlb] at HLt
    clear hlb
    go_wp2_with (first
      | (go_at_call 8; go_must (refine HLt.out.mono ?_; rintro e wx ⟨rfl, hw⟩; replace hw := hw.symm; subst hw))
      | (go_at_call 9; go_must (refine (HAl.out _).mono ?_; rintro e w3 ⟨rfl, hb3⟩; have HB3 : Hid (Below w1.heap.size w1 w3) := hb3; clear hb3)))
    go_ret
    exact ⟨rfl, bnext HB1.out HB3.out⟩
  rw [hlb] at HLt
  obtain ⟨hl60, hq⟩ := light_of hlb HEN.out
  have hl60' : l.length ≤ 60 := by omega
  have HQ : Hid (∀ q ∈ l, Rd W q.v q.b ∧ q.b.length ≤ 1000) := hq
  clear hlb hl60 hq
  obtain ⟨w2, hw2⟩ : ∃ w2, w2 = w1.alloc (.cells #[.map none] 70) := ⟨_, rfl⟩
  obtain ⟨tb, htb⟩ : ∃ tb, tb = w1.heap.size := ⟨_, rfl⟩
  obtain ⟨w3, hw3⟩ : ∃ w3, w3 = w2.alloc (.cells #[.slice none 0 0] 32) := ⟨_, rfl⟩
  obtain ⟨rb, hrb⟩ : ∃ rb, rb = w2.heap.size := ⟨_, rfl⟩
  have hP2 : PTr w2 tb none [] := by rw [hw2, htb]; exact ptr_new w1
  have hB12 : Below w1.heap.size w1 w2 := by rw [hw2]; exact balloc (Below.refl _ _) _
  have hB23 : Below w2.heap.size w2 w3 := by rw [hw3]; exact balloc (Below.refl _ _) _
  have hR3 : RTr w3 rb (.slice none 0 0) [] := ⟨by rw [hw3, hrb]; exact blk_new w2 [.slice none 0 0] 32, (ownT_nil 0 w3).row, fun x hx => by cases hx⟩
  have HBo3 : Hid (Both w3 tb rb none (.slice none 0 0) [] [] []) := ⟨hP2.below hB23, hR3, rfl, rfl, gd_nil, by simp⟩
  have HB3 : Hid (Below w1.heap.size w1 w3) := bnext hB12 hB23
  have HTB : Hid (w1.heap.size ≤ tb) := by show _ ≤ _; omega
  have HRB : Hid (w1.heap.size ≤ rb) := by show _ ≤ _; rw [hrb]; exact hB12.size
  have HW2 : Hid (w2 = w1.alloc (.cells #[.map none] 70)) := hw2
  have HTb : Hid (tb = w1.heap.size) := htb
  clear hP2 hB12 hB23 hR3 hw2 htb
  go_upto_region 5 with (first
    | (go_at_call 8; go_must (refine HLt.out.mono ?_; rintro e wx ⟨rfl, hw⟩; replace hw := hw.symm; subst hw))
    | (go_at_call 10; go_must (refine (new10 w1).mono ?_; rintro e wx ⟨rfl, hw⟩; have e2 : w2 = wx := HW2.out.trans hw.symm; subst e2; clear hw; rw [← HTb.out])))
  rw [← hw3, ← hrb]
  clear hw3 hrb HW2 HTb HLt
  go_upto_region 7 with (go_at_call 9; go_must (refine (HAl.out _).mono ?_; rintro e w4 ⟨rfl, hb4⟩; have HB34 : Hid (Below w3.heap.size w3 w4) := hb4; clear hb4))
  have HBo4 : Hid (Both w4 tb rb none (.slice none 0 0) [] [] []) := HBo3.out.below HB34.out
  have HB4 : Hid (Below w1.heap.size w1 w4) := bnext HB3.out HB34.out
  clear HBo3 HB3 HB34
  obtain ⟨N, hN⟩ : ∃ N, N = l.length := ⟨_, rfl⟩
  have HNl : Hid (N = l.length) := hN
  rw [← hN] at HRD hl60' ⊢
  clear hN
  go_wp2
  go_loopw [9] (fun i wr => ∃ (k : Nat) (mo : Option Nat) (v2 : Value) (L L2 : List IT) (M : List IM), i = .int .i64 (k : Int) ∧ k ≤ N ∧ M.length ≤ k ∧ Hid (Both wr tb rb mo v2 L L2 M) ∧ Hid (Below w1.heap.size w1 wr ∧ ∀ k, mo = some k → w1.heap.size ≤ k)) (fun i _ => N - (intOf i).toNat)
  case atStart => exact ⟨0, none, _, _, _, _, rfl, Nat.zero_le _, by simp, HBo4, HB4.out, fun k hk => by cases hk⟩
  case round =>
    obtain ⟨k, mo, v2, L, L2, M, rfl, hk, hMk, HBo, HB⟩ := hrel
    rename World => wr
    clear HBo4 HB4
    by_cases hlt : k < N
    · have hkI : (k : Int) < (N : Int) := by omega
      have HMk : Hid (M.length ≤ k ∧ k < N ∧ N ≤ 60) := ⟨hMk, hlt, hl60'⟩
      obtain ⟨q, hq⟩ : ∃ q, l[k]? = some q := ⟨_, List.getElem?_eq_getElem (by have := HNl.out; omega)⟩
      have HQq : Hid (Rd W q.v q.b ∧ q.b.length ≤ 1000) := HQ.out q (List.mem_of_getElem? hq)
      obtain ⟨b1, o1, rfl, _⟩ := HRD.out.at oc_len hq
      have HCq : Hid (∀ w', Below w1.heap.size w1 w' → w'.rangeAt b1 (o1 + k * 10) (oc q)) := fun w' hb => by
        obtain ⟨b1', o1', e1, h1⟩ := (HRD.out.below (bnext HB1.out hb)).at oc_len hq
        cases e1
        exact h1
      clear hq
      obtain ⟨a2, c2, rfl⟩ := HBo.out.slice
      have HCr : Hid (wr.rangeAt b1 (o1 + k * 10) (oc q)) := HCq.out _ HB.out.1
      have HDo : Hid (Calls Try.prog 11 #[ptr tb, ov q] wr fun e w' => ∃ x b k, e = .returned (.tuple #[iv x, .bool b, .int .i64 k]) ∧ DoAns wr tb mo L q x b k w') := do11 HBo.out.p (by have := HBo.out.lp; have := HBo.out.few; omega) (by rw [HBo.out.pm]; exact HBo.out.gd) q (HQq.out.1.below (bnext HB1.out HB.out.1)) HQq.out.2
      have tk1 : Hid True := trivial
      have tk2 : Hid True := trivial
      have tk3 : Hid True := trivial
      clear HQ
      go_upto_region 11 with (first
        | (clear tk3; refine wpList_okw rfl (exec_load40 (q := q) (.tmp 41) rfl rfl HCr.out) ?_)
        | (go_at_call 11; go_must (refine HDo.out.mono ?_; rintro e w4 ⟨x, b, kk, rfl, hans⟩; have HA : Hid (DoAns wr tb mo L q x b kk w4) := hans; clear hans; obtain ⟨w5, hw5⟩ : ∃ w5, w5 = w4.alloc (.cells (ic zT).toArray 35) := ⟨_, rfl⟩; obtain ⟨g, hg⟩ : ∃ g, g = w4.heap.size := ⟨_, rfl⟩; have HT5 : Hid (w5.there g 0 10) := (show _ from by rw [hw5, hg]; exact (itp_new w4 zT).there); have HW5 : Hid (w5 = w4.alloc (.cells (ic zT).toArray 35)) := hw5; have HGG : Hid (g = w4.heap.size) := hg; clear hw5 hg))
        | (clear tk1; refine wpList_okw rfl (exec_alloc35 rfl) ?_; rw [← HW5.out, ← HGG.out])
        | (clear tk2; refine wpList_skipw rfl (exec_store35 (q := x) (.tmp 10) (.tmp 44) rfl rfl rfl HT5.out) ?_; obtain ⟨w6, hw6⟩ : ∃ w6, w6 = w5.setCells g 0 (ic x) := ⟨_, rfl⟩; rw [← hw6]; obtain ⟨i1, i2, i3, i4⟩ := item_putp (Below.refl w4.heap.size w4) HW5.out HGG.out hw6; have HI6 : Hid (Itp w6 g x) := i1; have HB46 : Hid (Below w4.heap.size w4 w6) := i2; have HG4 : Hid (w4.heap.size ≤ g) := i4; clear hw6 i1 i2 i3 i4 HT5 HW5 HGG))
      obtain ⟨mo4, L4, hp4, hm4, ht4⟩ := HA.out.tree
      have hbx := ht4.below HB.out.1 HTB.out HB.out.2
      have HB6 : Hid (Below w1.heap.size w1 w6) := bnext hbx.1 HB46.out
      have HMo4 : Hid (∀ k, mo4 = some k → w1.heap.size ≤ k) := hbx.2
      have HP6 : Hid (PTr w6 tb mo4 L4) := hp4.below HB46.out
      have HM4 : Hid (L4.map IT.m = doM M q) := by show _ = _; rw [hm4, HBo.out.pm]
      have HR6 : Hid (RTr w6 rb (.slice a2 L.length c2) L2) := (HBo.out.r.tw ht4 HBo.out.p).below HB46.out
      have HRx6 : Hid (Rd w6 x.v x.m.b) := HA.out.rd.below HB46.out
      have HC6 : Hid (w6.rangeAt b1 (o1 + k * 10) (oc q)) := HCq.out _ HB6.out
      have hfewr : L2.length ≤ 200 := by have := HBo.out.lr; have := HBo.out.few; omega
      have hsr : SrtI (L2.map IT.m) := by rw [HBo.out.rm]; exact HBo.out.gd.srt
      have HDr : Hid (Calls Try.prog 12 #[ptr rb, ov q] w6 fun e w' => ∃ x b k, e = .returned (.tuple #[iv x, .bool b, .int .i64 k]) ∧ RDo w6 rb L2 q x b k w') := do12 HR6.out hfewr hsr q (HQq.out.1.below (bnext HB1.out HB6.out))
      clear hp4 hm4 ht4 hbx HDo HCr hfewr hsr
      have tk1 : Hid True := trivial
      have tk2 : Hid True := trivial
      go_upto_region 12 with (first
        | (refine wpList_okw rfl (exec_load40 (q := q) (.tmp 51) rfl rfl HC6.out) ?_)
        | (go_at_call 12; go_must (refine HDr.out.mono ?_; rintro e w7 ⟨x2, b2, kk2, rfl, hans⟩; have HA2 : Hid (RDo w6 rb L2 q x2 b2 kk2 w7) := hans; clear hans; obtain ⟨w8, hw8⟩ : ∃ w8, w8 = w7.alloc (.cells (ic zT).toArray 41) := ⟨_, rfl⟩; obtain ⟨g2, hg2⟩ : ∃ g2, g2 = w7.heap.size := ⟨_, rfl⟩; have HT8 : Hid (w8.there g2 0 10) := (show _ from by rw [hw8, hg2]; exact (itb_new w7 zT).there); have HW8 : Hid (w8 = w7.alloc (.cells (ic zT).toArray 41)) := hw8; have HG2 : Hid (g2 = w7.heap.size) := hg2; clear hw8 hg2))
        | (clear tk1; refine wpList_okw rfl (exec_alloc41 rfl) ?_; rw [← HW8.out, ← HG2.out])
        | (clear tk2; refine wpList_skipw rfl (exec_store41 (q := x2) (.tmp 13) (.tmp 54) rfl rfl rfl HT8.out) ?_; obtain ⟨w9, hw9⟩ : ∃ w9, w9 = w8.setCells g2 0 (ic x2) := ⟨_, rfl⟩; rw [← hw9]; obtain ⟨i1, i2, i3, i4⟩ := item_put (Below.refl w7.heap.size w7) HW8.out HG2.out hw9; have HI9 : Hid (Itb w9 g2 x2) := i1; have HB79 : Hid (Below w7.heap.size w7 w9) := i2; clear hw9 i1 i2 i3 i4 HT8 HW8 HG2))
      obtain ⟨v7, L7, hr7, hm7, hg7⟩ := HA2.out.tree
      have hne7 : g ≠ rb := by
        have h1 := Blk.lt HBo.out.r.blk
        have h2 := HG4.out
        have h3 : wr.heap.size ≤ w4.heap.size := by obtain ⟨_, _, _, _, ht⟩ := HA.out.tree; exact ht.size
        omega
      have HI7 : Hid (Itp w9 g x) := Itp.below (Blk.past HI6.out hg7 hne7) HB79.out
      have HP7 : PTr w7 tb mo4 L4 := PTr.pastRef HP6.out HR6.out.blk hg7
      have HMD : Hid (doM M q = doM M q) := rfl
      have hdl := doM_len M q
      have HBo9 : Hid (Both w9 tb rb mo4 v7 L4 L7 (doM M q)) := ⟨HP7.below HB79.out, hr7.below HB79.out, HM4.out, by rw [hm7, HBo.out.rm], HBo.out.gd.do (by have := HBo.out.few; omega), by have := HMk.out; omega⟩
      have HMl : Hid ((doM M q).length ≤ k + 1) := by show _ ≤ _; have := HMk.out; omega
      have HB9 : Hid (Below w1.heap.size w1 w9) := bnext (bgrown HB6.out HRB.out hg7) HB79.out
      have HRx : Hid (Rd w9 x.v x.m.b) := (rd_past HRx6.out HR6.out.blk (fun n => by simp) hg7).below HB79.out
      have HRx2 : Hid (Rd w9 x2.v x2.m.b) := HA2.out.rd.below HB79.out
      have HXX : Hid (x.m = x2.m) := by show _ = _; rw [HA.out.m, HA2.out.m, HBo.out.pm, HBo.out.rm]
      have hb2 : b = b2 := by rw [HA.out.b, HA2.out.b, HBo.out.pm, HBo.out.rm]
      have hk2 : kk = kk2 := by rw [HA.out.k, HA2.out.k]
      subst hb2
      subst hk2
      obtain ⟨M', hM'⟩ : ∃ M', M' = doM M q := ⟨_, rfl⟩
      rw [← hM'] at HBo9 HMl
      clear hr7 hm7 hg7 hne7 HP7 HMD hdl hM' HDr HC6 HR6 HRx6 HP6 HM4 HI6 HA HA2 HBo HB HB6 HB46 HB79 HG4 HQq
      obtain ⟨a7, c7, rfl⟩ := HBo9.out.slice
      have hbb : (b != b) = false := by simp
      have hkk : (kk != kk) = false := by simp
      have HRt9 : Hid (∀ w', Below w9.heap.size w9 w' → w'.cell? ⟨rb, 0, none⟩ = some (.slice a7 L4.length c7)) := fun w' hb => (HBo9.out.below hb).r.blk.cell 0 _ rfl
      go_upto_region 12 with fail
      have c7z := fun z : WIn (fun w' => Below w9.heap.size w9 w') => HRt9.out z.w z.ok
      have ne : Nonempty (WIn (fun w' => Below w9.heap.size w9 w')) := ⟨⟨w9.drew, below_drewn w9 1⟩⟩
      refine wp_region_ord (C := fun w' => ∃ z : WIn (fun w' => Below w9.heap.size w9 w'), w' = z.w) [(false, 0), (false, 2), (true, 1), (true, 3), (false, 4), (false, 5), (false, 6), (false, 7), (false, 8), (false, 9), (false, 10), (false, 11), (false, 12), (false, 13), (false, 14), (false, 15), (false, 16), (false, 19), (false, 20), (false, 21), (false, 22), (true, 17), (true, 18), (true, 23), (false, 24), (false, 25), (false, 26), (false, 27), (false, 29), (false, 30), (false, 31), (false, 32), (false, 33), (true, 28), (false, 34), (false, 35)] (by kernel_rfl) (by kernel_rfl) ⟨⟨w9.drew, below_drewn w9 1⟩, rfl⟩ ?_
      refine ord_still rfl rfl ?_
      refine quiet_ok1 rfl (fun w' hw' => by obtain ⟨z, rfl⟩ := hw'; exact exec_load35 (q := x) (.tmp 10) rfl rfl (HI7.out.below z.ok).range) ?_
      go_simp
      refine ord_still rfl rfl ?_
      refine quiet_ok1 rfl (fun w' hw' => by obtain ⟨z, rfl⟩ := hw'; exact exec_load41 (q := x2) (.tmp 13) rfl rfl (HI9.out.below z.ok).range) ?_
      go_simp
      refine ord_mem rfl rfl ?_
      go_simp
      refine (item14 x _).mono ?_
      rintro r u1 ⟨rfl, hb⟩
      have HU1 : Hid (Below w9.heap.size w9 u1) := bnext (below_drewn w9 1) hb
      clear hb
      refine ⟨⟨⟨u1, HU1.out⟩, rfl⟩, ?_⟩
      go_simp
      refine ord_mem rfl rfl ?_
      go_simp
      refine (same13e (HRx.out.below HU1.out) (HRx2.out.below HU1.out) HXX.out).mono ?_
      rintro r u2 ⟨rfl, hb⟩
      have HU2 : Hid (Below w9.heap.size w9 u2) := bnext HU1.out hb
      clear hb
      refine ⟨⟨⟨u2, HU2.out⟩, rfl⟩, ?_⟩
      go_simp
      iterate 17 (refine ord_still rfl rfl ?_; go_big_quiet_step (fail); refine wpQuiet_nil ?_)
      refine ord_mem rfl rfl ?_
      go_simp
      refine (pall_was (HBo9.out.below HU2.out)).mono ?_
      rintro r u3 ⟨va, X, rfl, hw, hxm, hb⟩
      have HU3 : Hid (Below w9.heap.size w9 u3) := bnext HU2.out hb
      clear hb
      have HWX : Hid (Was u3 va X ∧ X.map IT.m = M') := ⟨hw, hxm⟩
      clear hw hxm
      refine ⟨⟨⟨u3, HU3.out⟩, rfl⟩, ?_⟩
      go_simp
      refine ord_mem rfl rfl ?_
      go_simp
      refine (items16w HWX.out.1 (by have h1 := map_len HWX.out.2; have h2 := HBo9.out.few; omega)).mono ?_
      rintro r u4 ⟨vb, rfl, hw, hb⟩
      have HU4 : Hid (Below w9.heap.size w9 u4) := bnext HU3.out hb
      clear hb
      have HWY : Hid (Was u4 vb X) := hw
      clear hw
      refine ⟨⟨⟨u4, HU4.out⟩, rfl⟩, ?_⟩
      go_simp
      refine ord_mem rfl rfl ?_
      go_simp
      refine (same15w HWY.out (HBo9.out.below HU4.out).was (HWX.out.2.trans HBo9.out.rm.symm)).mono ?_
      rintro r u5 ⟨rfl, hb⟩
      have HU5 : Hid (Below w9.heap.size w9 u5) := bnext HU4.out hb
      clear hb
      refine ⟨⟨⟨u5, HU5.out⟩, rfl⟩, ?_⟩
      go_simp
      iterate 9 (refine ord_still rfl rfl ?_; go_big_quiet_step (fail); refine wpQuiet_nil ?_)
      refine ord_mem rfl rfl ?_
      go_simp
      refine (len18 (HBo9.out.below HU5.out).p).mono ?_
      rintro r u6 ⟨rfl, hw⟩
      replace hw := hw.symm
      subst hw
      refine ⟨⟨⟨u5, HU5.out⟩, rfl⟩, ?_⟩
      go_simp
      iterate 2 (refine ord_still rfl rfl ?_; go_big_quiet_step (fail); refine wpQuiet_nil ?_)
      refine ord_end ?_
      clear ne
      clear c7z HWX HWY HU1 HU2 HU3 HU4 hbb hkk HRx HRx2 HXX HI7 HI9
      go_upto_region 14 with fail
      have HBo5 : Hid (Both u5 tb rb mo4 (.slice a7 L4.length c7) L4 L7 M') := HBo9.out.below HU5.out
      have HB15 : Hid (Below w1.heap.size w1 u5) := bnext HB9.out HU5.out
      have HN5 : Hid (u5.rangeAt B0 0 (sc n)) := HN.out _ HB15.out
      have HGt : Hid (Calls Try.prog 19 #[ptr tb, sv n] u5 fun e w' => ∃ y b, e = .returned (.tuple #[iv y, .bool b]) ∧ GotC u5.heap.size w' L4 n y b ∧ Below u5.heap.size u5 w') := get19 HBo5.out.p HSn.out.1
      clear HBo9 HB9 HU5 HRt9
      have tk1 : Hid True := trivial
      have tk2 : Hid True := trivial
      go_upto_region 15 with (first
        | (refine wpList_okw rfl (exec_load24n (n := n) (.tmp 4) rfl rfl HN5.out) ?_)
        | (go_at_call 19; go_must (refine HGt.out.mono ?_; rintro r w7 ⟨y, b3, rfl, hgt, hb7⟩; have HGy : Hid (GotC u5.heap.size w7 L4 n y b3) := hgt; have HB7 : Hid (Below u5.heap.size u5 w7) := hb7; clear hb7 hgt; obtain ⟨w8, hw8⟩ : ∃ w8, w8 = w7.alloc (.cells (ic zT).toArray 35) := ⟨_, rfl⟩; obtain ⟨g3, hg⟩ : ∃ g3, g3 = w7.heap.size := ⟨_, rfl⟩; have HT8 : Hid (w8.there g3 0 10) := (show _ from by rw [hw8, hg]; exact (itp_new w7 zT).there); have HW8 : Hid (w8 = w7.alloc (.cells (ic zT).toArray 35)) := hw8; have HGG : Hid (g3 = w7.heap.size) := hg; clear hw8 hg))
        | (clear tk1; refine wpList_okw rfl (exec_alloc35 rfl) ?_; rw [← HW8.out, ← HGG.out])
        | (clear tk2; refine wpList_skipw rfl (exec_store35 (q := y) (.tmp 16) (.tmp 97) rfl rfl rfl HT8.out) ?_; obtain ⟨w9, hw9⟩ : ∃ w9, w9 = w8.setCells g3 0 (ic y) := ⟨_, rfl⟩; rw [← hw9]; obtain ⟨i1, i2, i3, i4⟩ := item_putp HB7.out HW8.out HGG.out hw9; have HIy : Hid (Itp w9 g3 y) := i1; have HB59 : Hid (Below u5.heap.size u5 w9) := i2; have HB79 : Hid (Below w7.heap.size w7 w9) := i3; clear hw9 i1 i2 i3 i4 HT8 HW8 HGG))
      rename World => wz
      have HBoz : Hid (Both wz tb rb mo4 (.slice a7 L4.length c7) L4 L7 M') := HBo5.out.below HB59.out
      have HB1z : Hid (Below w1.heap.size w1 wz) := bnext HB15.out HB59.out
      have HNz : Hid (wz.rangeAt B0 0 (sc n)) := HN.out _ HB1z.out
      have HRy : Hid (Rd wz y.v y.m.b) := HGy.out.rd.below HB79.out
      have HGr : Hid (Calls Try.prog 20 #[ptr rb, sv n] wz (GetAns wz L7 n)) := get20 HBoz.out.r n
      clear HN5 HGt HBo5 HB15 HB79 HB59 HB7
      have tk1 : Hid True := trivial
      have tk2 : Hid True := trivial
      go_upto_region 16 with (first
        | (refine wpList_okw rfl (exec_load24n (n := n) (.tmp 4) rfl rfl HNz.out) ?_)
        | (go_at_call 20; go_must (refine HGr.out.mono ?_; rintro r w7' ⟨y2, b4, rfl, hgt, hb7⟩; have HGy2 : Hid (GotT w7' L7 n y2 b4) := hgt; have HB7 : Hid (Below wz.heap.size wz w7') := hb7; clear hb7 hgt; obtain ⟨w8, hw8⟩ : ∃ w8, w8 = w7'.alloc (.cells (ic zT).toArray 41) := ⟨_, rfl⟩; obtain ⟨g4, hg⟩ : ∃ g4, g4 = w7'.heap.size := ⟨_, rfl⟩; have HT8 : Hid (w8.there g4 0 10) := (show _ from by rw [hw8, hg]; exact (itb_new w7' zT).there); have HW8 : Hid (w8 = w7'.alloc (.cells (ic zT).toArray 41)) := hw8; have HGG : Hid (g4 = w7'.heap.size) := hg; clear hw8 hg))
        | (clear tk1; refine wpList_okw rfl (exec_alloc41 rfl) ?_; rw [← HW8.out, ← HGG.out])
        | (clear tk2; refine wpList_skipw rfl (exec_store41 (q := y2) (.tmp 17) (.tmp 103) rfl rfl rfl HT8.out) ?_; obtain ⟨wy, hwy⟩ : ∃ wy, wy = w8.setCells g4 0 (ic y2) := ⟨_, rfl⟩; rw [← hwy]; obtain ⟨i1, i2, i3, i4⟩ := item_put HB7.out HW8.out HGG.out hwy; have HIy2 : Hid (Itb wy g4 y2) := i1; have HBzy : Hid (Below wz.heap.size wz wy) := i2; have HB7y : Hid (Below w7'.heap.size w7' wy) := i3; clear hwy i1 i2 i3 i4 HT8 HW8 HGG))
      have HBoy : Hid (Both wy tb rb mo4 (.slice a7 L4.length c7) L4 L7 M') := HBoz.out.below HBzy.out
      have HB1y : Hid (Below w1.heap.size w1 wy) := bnext HB1z.out HBzy.out
      have HRy3 : Hid (Rd wy y.v y.m.b) := HRy.out.below HBzy.out
      have HRy2 : Hid (Rd wy y2.v y2.m.b) := HGy2.out.rd.below HB7y.out
      have HIy3 : Hid (Itp wy g3 y) := HIy.out.below HBzy.out
      have HYY : Hid (y.m = y2.m) := by show _ = _; rw [HGy.out.m, HGy2.out.m, HBoz.out.pm, HBoz.out.rm]
      have hb34 : b3 = b4 := by rw [HGy.out.is, HGy2.out.is, HBoz.out.pm, HBoz.out.rm]
      subst hb34
      have HNy : Hid (∀ w', Below wy.heap.size wy w' → w'.rangeAt B0 0 (sc n)) := fun w' hb => HN.out _ (bnext HB1y.out hb)
      have HMy : Hid (∀ w', Below wy.heap.size wy w' → w'.rangeAt B1 0 (sc m)) := fun w' hb => HM.out _ (bnext HB1y.out hb)
      have HC1 : Hid (∀ w', Below wy.heap.size wy w' → Calls Try.prog 21 #[ptr tb, sv n, sv m] w' fun e w'' => e = .returned (.bool (withinM M' 301 n m)) ∧ Below w'.heap.size w' w'') := fun w' hb => pin21 (HBoy.out.below hb) HSn.out.1 HSn.out.2
      have HC2 : Hid (∀ w', Below wy.heap.size wy w' → Calls Try.prog 22 #[ptr rb, sv n, sv m] w' fun e w'' => e = .returned (.bool (withinM M' 301 n m)) ∧ Below w'.heap.size w' w'') := fun w' hb => rin22 (HBoy.out.below hb) n m
      have HC3 : Hid (∀ w', Below wy.heap.size wy w' → Calls Try.prog 23 #[ptr tb, sv n] w' fun e w'' => e = .returned (.bool (hangsM M' 301 n)) ∧ Below w'.heap.size w' w'') := fun w' hb => pha23 (HBoy.out.below hb) HSn.out.1
      have HC4 : Hid (∀ w', Below wy.heap.size wy w' → Calls Try.prog 24 #[ptr rb, sv n] w' fun e w'' => e = .returned (.bool (hangsM M' 301 n)) ∧ Below w'.heap.size w' w'') := fun w' hb => rha24 (HBoy.out.below hb) n
      generalize withinM M' 301 n m = wi at HC1 HC2
      generalize hangsM M' 301 n = hg at HC3 HC4
      have hbb : (b3 != b3) = false := by simp
      have hww : (wi != wi) = false := by simp
      have hgg : (hg != hg) = false := by simp
      clear HNz HGr HBoz HB1z HB7y HBzy HB7 HGy HGy2 HRy HIy
      go_upto_region 16 with fail
      have ne : Nonempty (WIn (fun w' => Below wy.heap.size wy w')) := ⟨⟨wy.drew, below_drewn wy 1⟩⟩
      refine wp_region_ord (C := fun w' => ∃ z : WIn (fun w' => Below wy.heap.size wy w'), w' = z.w) [(false, 0), (false, 2), (true, 1), (true, 3), (false, 4), (false, 5), (false, 6), (false, 7), (false, 8), (false, 9), (false, 10), (false, 11), (false, 12), (false, 13), (false, 15), (false, 16), (false, 17), (true, 14), (true, 18), (false, 19), (false, 20), (false, 21), (false, 22), (false, 23), (false, 25), (false, 26), (true, 24), (true, 27), (false, 28), (false, 29), (false, 30), (false, 31), (false, 32), (false, 35), (false, 36), (true, 33), (true, 34), (true, 37), (true, 38), (false, 39), (false, 40)] (by kernel_rfl) (by kernel_rfl) ⟨⟨wy.drew, below_drewn wy 1⟩, rfl⟩ ?_
      refine ord_still rfl rfl ?_
      refine quiet_ok1 rfl (fun w' hw' => by obtain ⟨z, rfl⟩ := hw'; exact exec_load35 (q := y) (.tmp 16) rfl rfl (HIy3.out.below z.ok).range) ?_
      go_simp
      refine ord_still rfl rfl ?_
      refine quiet_ok1 rfl (fun w' hw' => by obtain ⟨z, rfl⟩ := hw'; exact exec_load41 (q := y2) (.tmp 17) rfl rfl (HIy2.out.below z.ok).range) ?_
      go_simp
      refine ord_mem rfl rfl ?_
      go_simp
      refine (item14 y _).mono ?_
      rintro r u1 ⟨rfl, hb⟩
      have HU1 : Hid (Below wy.heap.size wy u1) := bnext (below_drewn wy 1) hb
      clear hb
      refine ⟨⟨⟨u1, HU1.out⟩, rfl⟩, ?_⟩
      go_simp
      refine ord_mem rfl rfl ?_
      go_simp
      refine (same13e (HRy3.out.below HU1.out) (HRy2.out.below HU1.out) HYY.out).mono ?_
      rintro r u2 ⟨rfl, hb⟩
      have HU2 : Hid (Below wy.heap.size wy u2) := bnext HU1.out hb
      clear hb
      refine ⟨⟨⟨u2, HU2.out⟩, rfl⟩, ?_⟩
      go_simp
      iterate 8 (refine ord_still rfl rfl ?_; go_big_quiet_step (fail); refine wpQuiet_nil ?_)
      refine ord_still rfl rfl ?_
      refine quiet_ok1 rfl (fun w' hw' => by obtain ⟨z, rfl⟩ := hw'; exact exec_load24n (n := n) (.tmp 4) rfl rfl (HNy.out z.w z.ok)) ?_
      go_simp
      refine ord_still rfl rfl ?_
      refine quiet_ok1 rfl (fun w' hw' => by obtain ⟨z, rfl⟩ := hw'; exact exec_load24n (n := m) (.tmp 5) rfl rfl (HMy.out z.w z.ok)) ?_
      go_simp
      iterate 1 (refine ord_still rfl rfl ?_; go_big_quiet_step (fail); refine wpQuiet_nil ?_)
      refine ord_still rfl rfl ?_
      refine quiet_ok1 rfl (fun w' hw' => by obtain ⟨z, rfl⟩ := hw'; exact exec_load24n (n := n) (.tmp 4) rfl rfl (HNy.out z.w z.ok)) ?_
      go_simp
      refine ord_still rfl rfl ?_
      refine quiet_ok1 rfl (fun w' hw' => by obtain ⟨z, rfl⟩ := hw'; exact exec_load24n (n := m) (.tmp 5) rfl rfl (HMy.out z.w z.ok)) ?_
      go_simp
      refine ord_mem rfl rfl ?_
      go_simp
      refine (HC1.out _ HU2.out).mono ?_
      rintro r u3 ⟨rfl, hb⟩
      have HU3 : Hid (Below wy.heap.size wy u3) := bnext HU2.out hb
      clear hb
      refine ⟨⟨⟨u3, HU3.out⟩, rfl⟩, ?_⟩
      go_simp
      refine ord_mem rfl rfl ?_
      go_simp
      refine (HC2.out _ HU3.out).mono ?_
      rintro r u4 ⟨rfl, hb⟩
      have HU4 : Hid (Below wy.heap.size wy u4) := bnext HU3.out hb
      clear hb
      refine ⟨⟨⟨u4, HU4.out⟩, rfl⟩, ?_⟩
      go_simp
      iterate 4 (refine ord_still rfl rfl ?_; go_big_quiet_step (fail); refine wpQuiet_nil ?_)
      refine ord_still rfl rfl ?_
      refine quiet_ok1 rfl (fun w' hw' => by obtain ⟨z, rfl⟩ := hw'; exact exec_load24n (n := n) (.tmp 4) rfl rfl (HNy.out z.w z.ok)) ?_
      go_simp
      iterate 1 (refine ord_still rfl rfl ?_; go_big_quiet_step (fail); refine wpQuiet_nil ?_)
      refine ord_still rfl rfl ?_
      refine quiet_ok1 rfl (fun w' hw' => by obtain ⟨z, rfl⟩ := hw'; exact exec_load24n (n := n) (.tmp 4) rfl rfl (HNy.out z.w z.ok)) ?_
      go_simp
      refine ord_mem rfl rfl ?_
      go_simp
      refine (HC3.out _ HU4.out).mono ?_
      rintro r u5 ⟨rfl, hb⟩
      have HU5 : Hid (Below wy.heap.size wy u5) := bnext HU4.out hb
      clear hb
      refine ⟨⟨⟨u5, HU5.out⟩, rfl⟩, ?_⟩
      go_simp
      refine ord_mem rfl rfl ?_
      go_simp
      refine (HC4.out _ HU5.out).mono ?_
      rintro r u6 ⟨rfl, hb⟩
      have HU6 : Hid (Below wy.heap.size wy u6) := bnext HU5.out hb
      clear hb
      refine ⟨⟨⟨u6, HU6.out⟩, rfl⟩, ?_⟩
      go_simp
      iterate 4 (refine ord_still rfl rfl ?_; go_big_quiet_step (fail); refine wpQuiet_nil ?_)
      refine ord_still rfl rfl ?_
      refine quiet_ok1 rfl (fun w' hw' => by obtain ⟨z, rfl⟩ := hw'; exact exec_load24n (n := n) (.tmp 4) rfl rfl (HNy.out z.w z.ok)) ?_
      go_simp
      iterate 1 (refine ord_still rfl rfl ?_; go_big_quiet_step (fail); refine wpQuiet_nil ?_)
      refine ord_still rfl rfl ?_
      refine quiet_ok1 rfl (fun w' hw' => by obtain ⟨z, rfl⟩ := hw'; exact exec_load24n (n := n) (.tmp 4) rfl rfl (HNy.out z.w z.ok)) ?_
      go_simp
      refine ord_mem rfl rfl ?_
      go_simp
      refine (pkids_was (HBoy.out.below HU6.out) n).mono ?_
      rintro r u7 ⟨va, X, rfl, hw, hxm, hb⟩
      have HU7 : Hid (Below wy.heap.size wy u7) := bnext HU6.out hb
      clear hb
      have HWX : Hid (Was u7 va X ∧ X.map IT.m = M'.filter (kidM n)) := ⟨hw, hxm⟩
      clear hw hxm
      refine ⟨⟨⟨u7, HU7.out⟩, rfl⟩, ?_⟩
      go_simp
      refine ord_mem rfl rfl ?_
      go_simp
      refine (items16w HWX.out.1 (by have h1 := map_len HWX.out.2; have h2 := HBoy.out.few; have h3 := List.length_filter_le (kidM n) M'; omega)).mono ?_
      rintro r u8 ⟨vb, rfl, hw, hb⟩
      have HU8 : Hid (Below wy.heap.size wy u8) := bnext HU7.out hb
      clear hb
      have HWY : Hid (Was u8 vb X) := hw
      clear hw
      refine ⟨⟨⟨u8, HU8.out⟩, rfl⟩, ?_⟩
      go_simp
      refine ord_mem rfl rfl ?_
      go_simp
      refine (kids_was (HBoy.out.below HU8.out) n).mono ?_
      rintro r u9 ⟨vc, Y, rfl, hw, hym, hb⟩
      have HWZ : Hid (Was u9 vc Y ∧ Y.map IT.m = M'.filter (kidM n)) := ⟨hw, hym⟩
      have HWY9 : Hid (Was u9 vb X) := HWY.out.below hb
      have HU9 : Hid (Below wy.heap.size wy u9) := bnext HU8.out hb
      clear hb hw hym
      refine ⟨⟨⟨u9, HU9.out⟩, rfl⟩, ?_⟩
      go_simp
      refine ord_mem rfl rfl ?_
      go_simp
      refine (same15w HWY9.out HWZ.out.1 (HWX.out.2.trans HWZ.out.2.symm)).mono ?_
      rintro r u10 ⟨rfl, hb⟩
      have HU10 : Hid (Below wy.heap.size wy u10) := bnext HU9.out hb
      clear hb
      refine ⟨⟨⟨u10, HU10.out⟩, rfl⟩, ?_⟩
      go_simp
      iterate 2 (refine ord_still rfl rfl ?_; go_big_quiet_step (fail); refine wpQuiet_nil ?_)
      refine ord_end ?_
      clear ne
      have HBoe : Hid (Both u10 tb rb mo4 (.slice a7 L4.length c7) L4 L7 M') := HBoy.out.below HU10.out
      have HBe : Hid (Below w1.heap.size w1 u10 ∧ ∀ k, mo4 = some k → w1.heap.size ≤ k) := ⟨bnext HB1y.out HU10.out, HMo4.out⟩
      clear HWX HWY HWZ HWY9 HU1 HU2 HU3 HU4 HU5 HU6 HU7 HU8 HU9 hbb hww hgg
      go_wp2
      go_roundw
      case rel => exact ⟨k + 1, mo4, _, L4, L7, M', by go_num, by omega, HMl.out, HBoe, HBe⟩
      case measure => simp [intOf]; omega
    · have hkI : ¬ (k : Int) < (N : Int) := by omega
      have HBe : Hid (Below W.heap.size W wr) := bnext HB1.out HB.out.1
      go_wp2
      go_ret
      exact ⟨rfl, HBe.out⟩
end Go.Proofs.Ytjlpdoomchkfgaa
