/-
  Two logs to which the same came: the law walked.
-/
import Derived.Test.YthnjbjlhfohpfaaUdW
import Derived.Test.YthnjbjlhfohpfaaUdV
import Derived.Test.YthnjbjlhfohpfaaArgO
import Derived.Test.YthnjbjlhfohpfaaLsF
import Derived.Test.YthnjbjlhfohpfaaRfB
namespace Go.Proofs.Ythnjbjlhfohpfaa
set_option linter.unusedVariables false
set_option linter.unusedSimpArgs false
set_option synthInstance.maxSize 20000
set_option maxHeartbeats 2000000
set_option maxRecDepth 20000
open Go.RowKit Go.Maps

section
variable {W0 w : World} {la ta lb tb : Nat} {va vb : Value} {ma mb : Option Nat} {LA LB : List IT} {UA UB : List ST} {q : OpT}
/-- An own row of operations stays. -/
def KeepsO (w w' : World) : Prop := ∀ (u : Value) (N : Nat) (O : List OpT), w.ownsRow 0 36 10 u N (flat oc O) → w'.ownsRow 0 36 10 u N (flat oc O)
def InsA (W0 w : World) (la ta lb : Nat) (vb : Value) (tb : Nat) (mb : Option Nat) (LB : List IT) (UB UA : List ST) (q : OpT) (e : Ending) (w' : World) : Prop := ∃ n k va' ma' LA' T, e = .returned (.tuple #[.int .i64 n, .int .i64 k]) ∧ Duo W0.heap.size w' la va' ta ma' LA' T lb vb tb mb LB UB ∧ InsB UA q T n k ∧ KeepsO w w' ∧ Below W0.heap.size W0 w'
theorem Duo.insA (h : Duo W0.heap.size w la va ta ma LA UA lb vb tb mb LB UB) (hb : Below W0.heap.size W0 w) (hf : UA.length ≤ 59) (hq : Rd w q.v q.b) (hql : q.b.length ≤ 1000) : Calls Try.prog 10 #[ptr la, ov q] w (InsA W0 w la ta lb vb tb mb LB UB UA q) := by
  refine (insert10 h.a.at_ hf hq hql).mono ?_
  rintro e w' ⟨n, k, v', mo', L', T, rfl, q1, q2, q3⟩
  obtain ⟨d1, d2⟩ := h.left hb q1 q2
  exact ⟨n, k, v', mo', L', T, rfl, d1, q3.b h.a.at_.str, fun u N O ho => own36_lw ho q2 h.a.at_, d2⟩
def InsBb (W0 w : World) (la : Nat) (va : Value) (ta : Nat) (ma : Option Nat) (LA : List IT) (UA : List ST) (lb tb : Nat) (UB : List ST) (q : OpT) (e : Ending) (w' : World) : Prop := ∃ n k vb' mb' LB' T, e = .returned (.tuple #[.int .i64 n, .int .i64 k]) ∧ Duo W0.heap.size w' la va ta ma LA UA lb vb' tb mb' LB' T ∧ InsB UB q T n k ∧ KeepsO w w' ∧ Below W0.heap.size W0 w'
theorem Duo.insB (h : Duo W0.heap.size w la va ta ma LA UA lb vb tb mb LB UB) (hb : Below W0.heap.size W0 w) (hf : UB.length ≤ 59) (hq : Rd w q.v q.b) (hql : q.b.length ≤ 1000) : Calls Try.prog 10 #[ptr lb, ov q] w (InsBb W0 w la va ta ma LA UA lb tb UB q) := by
  refine (insert10 h.b.at_ hf hq hql).mono ?_
  rintro e w' ⟨n, k, v', mo', L', T, rfl, q1, q2, q3⟩
  obtain ⟨d1, d2⟩ := h.right hb q1 q2
  exact ⟨n, k, v', mo', L', T, rfl, d1, q3.b h.b.at_.str, fun u N O ho => own36_lw ho q2 h.b.at_, d2⟩
def RemBb (W0 w : World) (la : Nat) (va : Value) (ta : Nat) (ma : Option Nat) (LA : List IT) (UA : List ST) (lb tb : Nat) (UB : List ST) (a : S) (e : Ending) (w' : World) : Prop := ∃ n k vb' mb' LB' T, e = .returned (.tuple #[.int .i64 n, .int .i64 k]) ∧ Duo W0.heap.size w' la va ta ma LA UA lb vb' tb mb' LB' T ∧ RemB UB a T n k ∧ Below W0.heap.size W0 w'
theorem Duo.remB (h : Duo W0.heap.size w la va ta ma LA UA lb vb tb mb LB UB) (hb : Below W0.heap.size W0 w) (a : S) : Calls Try.prog 12 #[ptr lb, sv a] w (RemBb W0 w la va ta ma LA UA lb tb UB a) := by
  refine (remove12 h.b.at_ a).mono ?_
  rintro e w' ⟨n, k, v', mo', L', T, rfl, q1, q2, q3⟩
  obtain ⟨d1, d2⟩ := h.right hb q1 q2
  exact ⟨n, k, v', mo', L', T, rfl, d1, q3.b h.b.at_.str, d2⟩
theorem has11b {v : Value} {lb tb : Nat} {mo : Option Nat} {L : List IT} {U : List ST} (h : LogAt w lb v tb mo L U) (a : S) : Calls Try.prog 11 #[ptr lb, sv a] w fun e w' => e = .returned (.bool (hasO a (Ob U))) ∧ Below w.heap.size w w' := by
  refine (has11 h.blk h.row h.str (by have := h.few; omega) a).mono ?_
  rintro e w' ⟨⟨i, _, rfl, hc⟩, hb⟩
  refine ⟨?_, hb⟩
  congr 2
  cases hh : hereB (U.drop i) a with
  | false => exact (has_no (cut_no h.str hc hh)).symm
  | true =>
    obtain ⟨r, R', e1, e2⟩ := here_yes hh
    exact (has_iff.2 ⟨r, List.mem_of_mem_drop (by rw [e1]; exact List.mem_cons_self), e2⟩).symm
end
theorem duo_new {W0 w1 w2 : World} {la ta lb tb : Nat} (h0 : Below W0.heap.size W0 w1) (ha : LogAt w1 la (.slice none 0 0) ta none [] []) (a1 : W0.heap.size ≤ la) (a2 : W0.heap.size ≤ ta) (hb : LogAt w2 lb (.slice none 0 0) tb none [] []) (b1 : w1.heap.size ≤ lb) (b2 : w1.heap.size ≤ tb) (h12 : Below w1.heap.size w1 w2) : Duo W0.heap.size w2 la (.slice none 0 0) ta none [] [] lb (.slice none 0 0) tb none [] [] :=
  ⟨⟨ha.below h12, a1, a2, fun k hk => (by cases hk), fun k hk => (by cases hk)⟩, ⟨hb, Nat.le_trans h0.size b1, Nat.le_trans h0.size b2, fun k hk => (by cases hk), fun k hk => (by cases hk)⟩, ⟨by have := ha.blk.lt; omega, by have := ha.tree.blk.lt; omega, fun k hk => (by cases hk), fun k hk => (by cases hk)⟩⟩
theorem swap_ix (t : Int) {N : Nat} (hN : 0 < N) (h40 : N ≤ 40) : ∃ b : Nat, ((wrap64 (t.tmod (N : Int) + (N : Int))).tmod (N : Int)) = (b : Int) ∧ b < N := by
  have h0 : (0 : Int) < (N : Int) := by omega
  have h1 := Int.lt_tmod_of_pos t h0
  have h5 := Int.tmod_lt_of_pos t h0
  have hw : wrap64 (t.tmod (N : Int) + (N : Int)) = t.tmod (N : Int) + (N : Int) := by
    generalize t.tmod (N : Int) = q at h1 h5
    unfold wrap64
    omega
  rw [hw]
  have h2 : 0 ≤ t.tmod (N : Int) + (N : Int) := by omega
  have h3 := Int.tmod_nonneg (N : Int) h2
  have h4 := Int.tmod_lt_of_pos (t.tmod (N : Int) + (N : Int)) h0
  exact ⟨((t.tmod (N : Int) + (N : Int)).tmod (N : Int)).toNat, by omega, by omega⟩
theorem light_ofB {l : List OpT} {n : Int} (h : lightB l n = true) {W : World} (en : ∀ q ∈ l, Rd W q.v q.b) : (l.length : Int) ≤ n ∧ ∀ q ∈ l, Rd W q.v q.b ∧ q.b.length ≤ 1000 := by
  unfold lightB at h
  rw [Bool.and_eq_true] at h
  refine ⟨of_decide_eq_true h.1, fun q hq => ⟨en q hq, ?_⟩⟩
  have h1 := of_decide_eq_true (List.all_eq_true.1 h.2 q hq)
  have h2 := okv_of (en q hq)
  unfold Okv at h2
  omega
theorem range_at {w : World} {b off : Nat} {q : OpT} (h : w.rangeAt b off (oc q)) : w.rangeAt b (off + 1) (sc q.a) := fun j u hj => by
  match j, hj with
  | 0, hj => exact h 1 u hj
  | 1, hj => exact h 2 u hj
  | j + 2, hj => simp [sc] at hj
theorem take_more {O : List OpT} {k : Nat} {q : OpT} (hq : O[k]? = some q) : O.take (k + 1) = O.take k ++ [q] := by
  obtain ⟨hi, rfl⟩ := List.getElem?_eq_some_iff.1 hq
  exact List.take_succ_eq_append_getElem hi
theorem take_ne {O : List OpT} {k : Nat} {q : OpT} (hs : O.Pairwise LtO) (hq : O[k]? = some q) : ∀ p ∈ O.take k, p.a ≠ q.a := fun p hp => by
  obtain ⟨i, hi⟩ := List.getElem?_of_mem hp
  rw [List.getElem?_take] at hi
  split at hi
  · obtain ⟨h1, e1⟩ := List.getElem?_eq_some_iff.1 hi
    obtain ⟨h2, e2⟩ := List.getElem?_eq_some_iff.1 hq
    have := List.pairwise_iff_getElem.1 hs i k h1 h2 (by omega)
    rw [e1, e2] at this
    exact lt_ne this
  · cases hi
theorem drop_cons {O : List OpT} {k : Nat} {q : OpT} (hq : O[k]? = some q) : O.drop k = q :: O.drop (k + 1) := by
  obtain ⟨hi, rfl⟩ := List.getElem?_eq_some_iff.1 hq
  exact List.drop_eq_getElem_cons hi
theorem Row.blkO {w : World} {g N cap : Nat} {m : List OpT} (h : Row w g N cap m) : ∃ vs, Blk w g 36 vs := by
  rcases h.2.2 with ⟨e, _⟩ | ⟨g', cap', cur, e, _, hg, _⟩
  · cases e
  · injection e with e1 _ _
    cases e1
    exact ⟨cur.toList, by show _ = _; rw [hg]⟩
/-- An operation of a row is written over. -/
theorem Duo.put36 {B : Nat} {w : World} {la ta lb tb g N cap i : Nat} {va vb : Value} {ma mb : Option Nat} {LA LB : List IT} {UA UB : List ST} {m : List OpT} {x : OpT} (h : Duo B w la va ta ma LA UA lb vb tb mb LB UB) (hR : Row w g N cap m) (hx : m[i]? = some x) (y : OpT) : Duo B (w.setCells g (i * 10) (oc y)) la va ta ma LA UA lb vb tb mb LB UB := by
  obtain ⟨vs, hb⟩ := hR.blkO
  have hold := hR.load hx
  have hl : i * 10 + (oc y).length ≤ vs.length := by
    have := hold 9 _ rfl
    have hbb : w.heap[g]? = some (.cells vs.toArray 36 (0, 0)) := hb
    simp [World.cell?, hbb] at this
    obtain ⟨h1, _⟩ := List.getElem?_eq_some_iff.1 this
    rw [oc_len]
    omega
  exact h.pastRow (grown_setCells _ _ _ _) hb (by decide) (by decide) (by decide) fun {u l} hr => rd_setCells hr hb hold (noB_oc x) (by rw [oc_len, oc_len]) hl
theorem HoldB.start {UA : List ST} {X : List OpT} : HoldB UA [] X [] := ⟨fun p hp => by simp [Ob, opsS] at hp, fun q hq => by cases hq⟩
theorem HoldB.ready {O Y X : List OpT} {UA UB : List ST} (h : HoldB UA UB X Y) (hA : HoldA O UA) (he : ∀ q, q ∈ Y ↔ q ∈ O) : HoldC UA UB X := ⟨h.x, fun p hp => by
  obtain ⟨q, hq, hr, rfl⟩ := (hA p).1 hp
  exact h.y q ((he q).2 hq) hr⟩
theorem HoldA.have {O : List OpT} {U : List ST} {q : OpT} (h : HoldA O U) (hq : q ∈ O) (hr : rightO q = true) : bare q ∈ Ob U := (h _).2 ⟨q, hq, hr, rfl⟩
theorem HoldA.start : HoldA [] [] := fun x => ⟨fun h => by simp [Ob, opsS] at h, fun ⟨q, hq, _⟩ => by cases hq⟩
theorem light_lens {w : World} {lb tb : Nat} {v : Value} {mo : Option Nat} {L : List IT} {U : List ST} {O : List OpT} (h : LogAt w lb v tb mo L U) (e : O.map bare = Ob U) : ∀ q ∈ O, q.b.length ≤ 1000 := fun q hq => by
  obtain ⟨r, hr, e2⟩ := bare_mem (l' := opsS U) e hq
  obtain ⟨s, hs, rfl⟩ := List.mem_map.1 hr
  have := (h.ok s hs).lq
  have e3 : q.b = s.q.b := (show (bare q).b = (bare s.q).b from by rw [e2])
  rw [e3]
  exact this
theorem hcxB {w w' : World} {b off : Nat} {xs : List Value} (h : w.rangeAt b off xs) (hb : Below w.heap.size w w') : w'.rangeAt b off xs := rangeAt_blocks h (fun hk => hb.block _ hk)
set_option maxHeartbeats 16000000 in
theorem same3 (v0 : Value) (l : List OpT) (tv : Value) (tl : List Int) (v2 : Value) (l2 : List OpT) (W : World) (rd0 : RowF oc W v0 l) (en0 : ∀ q ∈ l, QIn W q) (ti : RdI W tv tl) (rd2 : RowF oc W v2 l2) (en2 : ∀ q ∈ l2, QIn W q) : Calls Try.prog 3 #[v0, tv, v2] W fun e W' => e = .returned (.bool true) ∧ Below W.heap.size W W' := by
  obtain ⟨a0, c0, rfl⟩ := rd0.len
  obtain ⟨at', ct, rfl⟩ := ti.len
  obtain ⟨a2, c2, rfl⟩ := rd2.len
  have hcap := rd0.caps
  have hcap2 := rd2.caps
  have HRD : Hid (RowF oc W (.slice a0 l.length c0) l) := rd0
  have HRD2 : Hid (RowF oc W (.slice a2 l2.length c2) l2) := rd2
  have HTI : Hid (RdI W (.slice at' tl.length ct) tl) := ti
  have HEN : Hid (∀ q ∈ l, Rd W q.v q.b) := fun q hq => (en0 q hq).rd
  have HEN2 : Hid (∀ q ∈ l2, Rd W q.v q.b) := fun q hq => (en2 q hq).rd
  have HAl : Hid (∀ w', Calls Try.prog 7 #[] w' fun e w'' => e = .returned (.bool true) ∧ Below w'.heap.size w' w'') := alive7
  have HLt : Hid (Calls Try.prog 6 #[.slice a0 l.length c0, .int .i64 20] W fun e w' => e = .returned (.bool (lightB l 20)) ∧ w' = W) := light8 rd0 (by omega)
  have HLt2 : Hid (Calls Try.prog 6 #[.slice a2 l2.length c2, .int .i64 10] W fun e w' => e = .returned (.bool (lightB l2 10)) ∧ w' = W) := light8 rd2 (by omega)
  clear rd0 rd2 en0 en2 ti hcap hcap2
  go_enter Try.func3, Try.ntmps3
  have tkA : Hid True := trivial
  have tkB : Hid True := trivial
  cases hlb : lightB l 20
  · rw [hlb] at HLt
    clear hlb
    go_wp2_with (first
      | (go_at_call 6; clear tkA; go_must (refine HLt.out.mono ?_; rintro e wx ⟨rfl, hw⟩; replace hw := hw.symm; subst hw))
      | (go_at_call 7; go_must (refine (HAl.out _).mono ?_; rintro e w3 ⟨rfl, hb3⟩; have HB3 : Hid (Below W.heap.size W w3) := hb3; clear hb3)))
    go_ret
    exact ⟨rfl, HB3.out⟩
  rw [hlb] at HLt
  cases hlb2 : lightB l2 10
  · rw [hlb2] at HLt2
    clear hlb hlb2
    go_wp2_with (first
      | (go_at_call 6; clear tkA; go_must (refine HLt.out.mono ?_; rintro e wx ⟨rfl, hw⟩; replace hw := hw.symm; subst hw))
      | (go_at_call 6; clear tkB; go_must (refine HLt2.out.mono ?_; rintro e wx ⟨rfl, hw⟩; replace hw := hw.symm; subst hw))
      | (go_at_call 7; go_must (refine (HAl.out _).mono ?_; rintro e w3 ⟨rfl, hb3⟩; have HB3 : Hid (Below W.heap.size W w3) := hb3; clear hb3)))
    go_ret
    exact ⟨rfl, HB3.out⟩
  rw [hlb2] at HLt2
  by_cases ht60 : 60 < tl.length
  · have ht60I : (60 : Int) < (tl.length : Int) := by omega
    clear hlb hlb2
    go_wp2_with (first
      | (go_at_call 6; clear tkA; go_must (refine HLt.out.mono ?_; rintro e wx ⟨rfl, hw⟩; replace hw := hw.symm; subst hw))
      | (go_at_call 6; clear tkB; go_must (refine HLt2.out.mono ?_; rintro e wx ⟨rfl, hw⟩; replace hw := hw.symm; subst hw))
      | (go_at_call 7; go_must (refine (HAl.out _).mono ?_; rintro e w3 ⟨rfl, hb3⟩; have HB3 : Hid (Below W.heap.size W w3) := hb3; clear hb3)))
    go_ret
    exact ⟨rfl, HB3.out⟩
  have ht60I : ¬ (60 : Int) < (tl.length : Int) := by omega
  obtain ⟨hl20, hq⟩ := light_ofB hlb HEN.out
  obtain ⟨hl10, hq2⟩ := light_ofB hlb2 HEN2.out
  have HL20 : Hid (l.length ≤ 20) := by show _ ≤ _; omega
  have HT60 : Hid (tl.length ≤ 60) := by show _ ≤ _; omega
  have hl2 : l2.length ≤ 10 := by omega
  have HQ : Hid (∀ q ∈ l, Rd W q.v q.b ∧ q.b.length ≤ 1000) := hq
  have HQ2 : Hid (∀ q ∈ l2, Rd W q.v q.b ∧ q.b.length ≤ 1000) := hq2
  have HS : Hid (Calls Try.prog 8 #[.slice a0 l.length c0] W fun e w' => ∃ v' O, e = .returned v' ∧ FirstOf O l ∧ w'.ownsRow 0 36 10 v' O.length (flat oc O) ∧ (∀ k, v'.ownBlock = some k → W.heap.size ≤ k) ∧ Below W.heap.size W w') := rsort22n HRD.out (by omega)
  clear hlb hlb2 hl20 hl10 hq hq2 ht60
  go_upto_region 4 with (first
    | (go_at_call 6; clear tkA; go_must (refine HLt.out.mono ?_; rintro e wx ⟨rfl, hw⟩; replace hw := hw.symm; subst hw))
    | (go_at_call 6; clear tkB; go_must (refine HLt2.out.mono ?_; rintro e wx ⟨rfl, hw⟩; replace hw := hw.symm; subst hw))
    | (go_at_call 8; go_must (refine HS.out.mono ?_; rintro e w2 ⟨v5, O, rfl, hF, ho, hn, hb2⟩; have HB2 : Hid (Below W.heap.size W w2) := hb2; have HF : Hid (FirstOf O l) := hF; have HO2 : Hid (w2.ownsRow 0 36 10 v5 O.length (flat oc O)) := ho; have HN5 : Hid (∀ k, v5.ownBlock = some k → W.heap.size ≤ k) := hn; have HNw : Hid (Calls Try.prog 9 #[] w2 (NewAns w2)) := new9 w2; clear hF ho hn hb2)))
  clear HLt HLt2 HS ht60I
  obtain ⟨a5, c5, rfl⟩ := (show ∃ a c, v5 = .slice a O.length c from (rowF_own oc_len HO2.out).len)
  have hcap5 := (rowF_own oc_len HO2.out).caps
  have HOl : Hid (O.length ≤ 20) := Nat.le_trans HF.out.len HL20.out
  have HQO : Hid (∀ q ∈ O, Rd W q.v q.b ∧ q.b.length ≤ 1000) := fun q hq => HQ.out q (HF.out.mem hq)
  have HStr : Hid (O.Pairwise LtO) := HF.out.str
  clear HF HQ HEN HEN2 HRD HL20
  have tk1 : Hid True := trivial
  have tk2 : Hid True := trivial
  go_upto_region 5 with (first
    | (go_at_call 9; clear tk1; go_must (refine HNw.out.mono ?_; rintro e w3 ⟨la, ta, rfl, hA3, hla, hta, hb3⟩; have HB3 : Hid (Below W.heap.size W w3) := bnext HB2.out hb3; have HA3 : Hid (LogAt w3 la (.slice none 0 0) ta none [] [] ∧ W.heap.size ≤ la ∧ W.heap.size ≤ ta) := ⟨hA3, Nat.le_trans HB2.out.size hla, Nat.le_trans HB2.out.size hta⟩; have HO3 : Hid (w3.ownsRow 0 36 10 (.slice a5 O.length c5) O.length (flat oc O)) := own_below HO2.out hb3; have HNx : Hid (Calls Try.prog 9 #[] w3 (NewAns w3)) := new9 w3; clear hA3 hla hta hb3))
    | (go_at_call 9; clear tk2; go_must (refine HNx.out.mono ?_; rintro e w4 ⟨lb, tb, rfl, hA4, hlb, htb, hb4⟩; have HB4 : Hid (Below W.heap.size W w4) := bnext HB3.out hb4; have HD4 : Hid (Duo W.heap.size w4 la (.slice none 0 0) ta none [] [] lb (.slice none 0 0) tb none [] []) := duo_new HB3.out HA3.out.1 HA3.out.2.1 HA3.out.2.2 hA4 hlb htb hb4; have HO4 : Hid (w4.ownsRow 0 36 10 (.slice a5 O.length c5) O.length (flat oc O)) := own_below HO3.out hb4; clear hA4 hlb htb hb4)))
  clear HNw HNx HA3 HO2 HO3 HB2 HB3
  obtain ⟨N, hN⟩ : ∃ N, N = O.length := ⟨_, rfl⟩
  obtain ⟨T, hT⟩ : ∃ T, T = tl.length := ⟨_, rfl⟩
  obtain ⟨L2, hL2⟩ : ∃ L2, L2 = l2.length := ⟨_, rfl⟩
  have HNl : Hid (N = O.length) := hN
  have HTl : Hid (T = tl.length) := hT
  have HL2 : Hid (L2 = l2.length) := hL2
  have hN20 : N ≤ 20 := by rw [hN]; exact HOl.out
  have hT60 : T ≤ 60 := by rw [hT]; exact HT60.out
  rw [← hN] at hcap5 HO4 ⊢
  rw [← hT] at HTI ⊢
  rw [← hL2] at HRD2 hl2 ⊢
  clear hN hT hL2 HT60 HOl
  go_wp2
  go_loopw [10] (fun i wr => ∃ (k : Nat) (va : Value) (ma : Option Nat) (LA : List IT) (UA : List ST), i = .int .i64 (k : Int) ∧ k ≤ N ∧ UA.length ≤ k ∧ Hid (Duo W.heap.size wr la va ta ma LA UA lb (.slice none 0 0) tb none [] []) ∧ Hid (HoldA (O.take k) UA) ∧ Hid (wr.ownsRow 0 36 10 (.slice a5 N c5) N (flat oc O)) ∧ Hid (Below W.heap.size W wr)) (fun i _ => N - (intOf i).toNat)
  case atStart => exact ⟨0, .slice none 0 0, none, [], [], rfl, Nat.zero_le _, Nat.le_refl _, HD4, HoldA.start, HO4, HB4⟩
  case round =>
    obtain ⟨k, va, ma, LA, UA, rfl, hk, hul, HD, HH, HO, HB⟩ := hrel
    clear HD4 HO4 HB4
    rename World => wr
    by_cases hlt : k < N
    · have hkI : (k : Int) < (N : Int) := by omega
      obtain ⟨g, rfl⟩ : ∃ g, a5 = some ⟨g, 0, none⟩ := by
        rcases HO.out.2 with ⟨_, h0⟩ | ⟨g, cap, cur, e, _⟩
        · omega
        · injection e with e1 _ _
          exact ⟨g, e1⟩
      obtain ⟨q, hq⟩ : ∃ q, O[k]? = some q := ⟨_, List.getElem?_eq_getElem (by have := HNl.out; omega)⟩
      have HL : Hid (wr.rangeAt g (k * 10) (oc q)) := Row.load ⟨HNl.out.symm, HO.out⟩ hq
      have HIn : Hid (Calls Try.prog 10 #[ptr la, ov q] wr (InsA W wr la ta lb (.slice none 0 0) tb none [] [] UA q)) := HD.out.insA HB.out (by omega) ((HQO.out q (List.mem_of_getElem? hq)).1.below HB.out) (HQO.out q (List.mem_of_getElem? hq)).2
      have HK : Hid (O[k]? = some q) := hq
      clear hq
      go_wp2_with (first
        | (refine wpList_okw rfl (exec_load40 (q := q) (.tmp 43) rfl rfl HL.out) ?_)
        | (go_at_call 10; go_must (refine HIn.out.mono ?_; rintro e w2 ⟨n, kk, va', ma', LA', T', rfl, d1, d2, d3, d4⟩; have HD1 : Hid (Duo W.heap.size w2 la va' ta ma' LA' T' lb (.slice none 0 0) tb none [] []) := d1; have HI1 : Hid (InsB UA q T' n kk) := d2; have HK1 : Hid (KeepsO wr w2) := d3; have HB1 : Hid (Below W.heap.size W w2) := d4; clear d1 d2 d3 d4)))
      go_roundw
      case rel =>
        refine ⟨k + 1, va', ma', LA', T', by go_num, by omega, by have := HI1.out.len; omega, HD1, ?_, HK1.out _ _ _ HO.out, HB1⟩
        show HoldA _ _
        rw [take_more HK.out]
        exact HH.out.snoc (take_ne HStr.out HK.out) HI1.out
      case measure => simp [intOf]; omega
    have hkI : ¬ (k : Int) < (N : Int) := by omega
    have HHA : Hid (HoldA O UA) := by
      have := HH.out
      rwa [List.take_of_length_le (by have := HNl.out; omega)] at this
    have hua : UA.length ≤ 20 := by omega
    clear HH hul hk hlt
    go_wp2
    go_loopw [11, 12, 13] (fun i _ _ wi => ∃ (j : Nat) (m : List OpT), i = .int .i64 (j : Int) ∧ j ≤ T ∧ m.length = N ∧ Hid (∀ q, q ∈ m ↔ q ∈ O) ∧ Hid (wi.ownsRow 0 36 10 (.slice a5 N c5) N (flat oc m)) ∧ Hid (Duo W.heap.size wi la va ta ma LA UA lb (.slice none 0 0) tb none [] []) ∧ Hid (Below W.heap.size W wi)) (fun i _ _ _ => T - (intOf i).toNat)
    case atStart => exact ⟨0, O, rfl, Nat.zero_le _, HNl.out.symm, fun q => Iff.rfl, HO, HD, HB⟩
    case round =>
      obtain ⟨j, m, rfl, hj, hmN, HM, HO2, HD2, HB2⟩ := hrel
      clear HO HD HB
      rename World => wi
      by_cases hend : j < T ∧ 0 < N
      · obtain ⟨hjt, hN0⟩ := hend
        have hjI : (j : Int) < (T : Int) := by omega
        have hNI : (0 : Int) < (N : Int) := by omega
        have hNn : ¬ (N : Int) = 0 := by omega
        obtain ⟨t, ht⟩ : ∃ t, tl[j]? = some t := ⟨_, List.getElem?_eq_getElem (by have := HTl.out; omega)⟩
        obtain ⟨bt, ot, rfl, cT⟩ := HTI.out.at HB2.out ht
        obtain ⟨b, hbe, hbN⟩ := swap_ix t hN0 (by omega)
        obtain ⟨g, rfl⟩ : ∃ g, a5 = some ⟨g, 0, none⟩ := by
          rcases HO2.out.2 with ⟨_, h0⟩ | ⟨g, cap, cur, e, _⟩
          · omega
          · injection e with e1 _ _
            exact ⟨g, e1⟩
        have HR : Hid (Row wi g N c5 m) := ⟨hmN, HO2.out⟩
        obtain ⟨x0, hx0⟩ : ∃ x, m[0]? = some x := ⟨_, List.getElem?_eq_getElem (by omega)⟩
        obtain ⟨xb, hxb⟩ : ∃ x, m[b]? = some x := ⟨_, List.getElem?_eq_getElem (by omega)⟩
        have HM0 : Hid (m[0]? = some x0) := hx0
        have HMb : Hid (m[b]? = some xb) := hxb
        have HL0 : Hid (wi.rangeAt g 0 (oc x0)) := by
          have := HR.out.load hx0
          show World.rangeAt _ _ _ _
          simpa using this
        obtain ⟨w7, hw7⟩ : ∃ w7, w7 = wi.alloc (.cells (oc oz).toArray 36) := ⟨_, rfl⟩
        obtain ⟨g7, hg7⟩ : ∃ g7, g7 = wi.heap.size := ⟨_, rfl⟩
        obtain ⟨w8, hw8⟩ : ∃ w8, w8 = w7.setCells g7 0 (oc x0) := ⟨_, rfl⟩
        obtain ⟨j1, j2, j3, j4⟩ := op_put (Below.refl wi.heap.size wi) hw7 hg7 hw8
        have HT7 : Hid (w7.there g7 0 10) := j4
        have HR8 : Hid (Row w8 g N c5 m) := HR.out.below j3
        have HD8 : Hid (Duo W.heap.size w8 la va ta ma LA UA lb (.slice none 0 0) tb none [] []) := HD2.out.below j3
        have HLb : Hid (w8.rangeAt g (b * 10) (oc xb)) := HR8.out.load hxb
        obtain ⟨w9, wa, hw9, hwa, hRa, hga, ht8, ht9⟩ := HR8.out.xchg (grown_refl w8 (some g)) hN0 hbN x0 xb
        have HT8 : Hid (w8.there g 0 10) := by show World.there _ _ _ _; simpa using ht8
        have HT9 : Hid (w9.there g (b * 10) 10) := ht9
        have HW9 : Hid (w9 = w8.setCells g 0 (oc xb)) := by show _ = _; rw [hw9]; try simp
        have HWa : Hid (wa = w9.setCells g (b * 10) (oc x0)) := hwa
        have HD9 : Hid (Duo W.heap.size w9 la va ta ma LA UA lb (.slice none 0 0) tb none [] []) := by
          show Duo _ _ _ _ _ _ _ _ _ _ _ _ _ _
          rw [hw9]
          exact HD8.out.put36 HR8.out hx0 xb
        have HDa : Hid (Duo W.heap.size wa la va ta ma LA UA lb (.slice none 0 0) tb none [] []) := by
          have hR9 : Row w9 g N c5 (m.set 0 xb) := by rw [hw9]; exact HR8.out.put hN0 xb
          show Duo _ _ _ _ _ _ _ _ _ _ _ _ _ _
          rw [hwa]
          exact HD9.out.put36 hR9 (List.getElem?_eq_getElem (by rw [List.length_set]; omega)) x0
        have HI9 : Hid (w9.rangeAt g7 0 (oc x0)) := by
          have hlt := HR.out.lt
          have : Opb w9 g7 x0 := Blk.past j1 (by rw [hw9]; exact grown_setCells _ _ _ _) (by omega)
          exact Blk.range0 this
        have HW7 : Hid (w7 = wi.alloc (.cells (oc oz).toArray 36)) := hw7
        have HG7 : Hid (g7 = wi.heap.size) := hg7
        have HW8 : Hid (w8 = w7.setCells g7 0 (oc x0)) := hw8
        have HRa : Hid (Row wa g N c5 ((m.set 0 xb).set b x0)) := hRa
        have HBa : Hid (Below W.heap.size W wa) := bgrown (bnext HB2.out j3) (HN5.out g rfl) hga
        clear j1 j2 j3 j4 hw7 hg7 hw8 hw9 hwa hRa hga ht8 ht9 hx0 hxb ht HR8 HR HD8 HD9
        have tk1 : Hid True := trivial
        have tk2 : Hid True := trivial
        have tk3 : Hid True := trivial
        have tk4 : Hid True := trivial
        have tk5 : Hid True := trivial
        have tk6 : Hid True := trivial
        have tk7 : Hid True := trivial
        go_upto_region 13 with fail
        try rw [hbe]
        clear hbe cT
        go_wp2_with (first
          | (clear tk1; refine wpList_okw rfl (exec_load40 (q := x0) (.tmp 71) rfl rfl HL0.out) ?_)
          | (clear tk2; refine wpList_okw rfl (exec_alloc40 rfl) ?_; rw [← HW7.out, ← HG7.out])
          | (clear tk3; refine wpList_skipw rfl (exec_store40 (q := x0) (.tmp 13) (.tmp 72) rfl rfl rfl HT7.out) ?_; rw [← HW8.out])
          | (clear tk4; refine wpList_okw rfl (exec_load40 (q := xb) (.tmp 76) rfl rfl HLb.out) ?_)
          | (clear tk5; refine wpList_skipw rfl (exec_store40 (q := xb) (.tmp 78) (.tmp 77) rfl rfl rfl HT8.out) ?_; rw [← HW9.out])
          | (clear tk6; refine wpList_okw rfl (exec_load40 (q := x0) (.tmp 13) rfl rfl HI9.out) ?_)
          | (clear tk7; refine wpList_skipw rfl (exec_store40 (q := x0) (.tmp 82) (.tmp 81) rfl rfl rfl HT9.out) ?_; rw [← HWa.out]))
        go_roundw
        case rel => exact ⟨j + 1, _, by go_num, by omega, HRa.out.1, fun q => (swap_mem HM0.out HMb.out q).trans (HM.out q), HRa.out.2, HDa, HBa⟩
        case measure => simp [intOf]; omega
      by_cases hjt : j < T
      case' pos =>
        have hjI : (j : Int) < (T : Int) := by omega
        have hNI : ¬ (0 : Int) < (N : Int) := by omega
        clear hend
        go_wp2
        clear hjI hNI
        try clear ‹¬ 0 < N›
      case' neg =>
        have hjI : ¬ (j : Int) < (T : Int) := by omega
        clear hend
        go_wp2
        clear hjI
      all_goals
        clear hjt hj
        go_loopw [14] (fun i wc => ∃ (k : Nat) (vb : Value) (mb : Option Nat) (LB : List IT) (UB : List ST), i = .int .i64 (k : Int) ∧ k ≤ N + L2 ∧ UB.length ≤ 2 * k ∧ Hid (Duo W.heap.size wc la va ta ma LA UA lb vb tb mb LB UB) ∧ Hid (HoldB UA UB l2 (m.take k)) ∧ Hid (wc.ownsRow 0 36 10 (.slice a5 N c5) N (flat oc m)) ∧ Hid (Below W.heap.size W wc)) (fun i _ => N + L2 - (intOf i).toNat)
        case atStart => exact ⟨0, .slice none 0 0, none, [], [], rfl, Nat.zero_le _, Nat.le_refl _, HD2, HoldB.start, HO2, HB2⟩
        case round =>
          obtain ⟨k, vb, mb, LB, UB, rfl, hk, hul, HDc, HHc, HO3, HBc⟩ := hrel
          clear HD2 HO2 HB2
          rename World => wc
          by_cases hkN : k < N
          · have hkNI : (k : Int) < (N : Int) := by omega
            obtain ⟨g, rfl⟩ : ∃ g, a5 = some ⟨g, 0, none⟩ := by
              rcases HO3.out.2 with ⟨_, h0⟩ | ⟨g, cap, cur, e, _⟩
              · omega
              · injection e with e1 _ _
                exact ⟨g, e1⟩
            obtain ⟨q, hq⟩ : ∃ q, m[k]? = some q := ⟨_, List.getElem?_eq_getElem (by omega)⟩
            have HQk : Hid (m[k]? = some q) := hq
            have HqO : Hid (q ∈ O) := (HM.out q).1 (List.mem_of_getElem? hq)
            have HqA : Hid (rightO q = true → bare q ∈ Ob UA) := fun hr => HHA.out.have HqO.out hr
            clear hq
            by_cases hkL : k < L2
            · have hkLI : (k : Int) < (L2 : Int) := by omega
              obtain ⟨x, hx⟩ : ∃ x, l2[k]? = some x := ⟨_, List.getElem?_eq_getElem (by have := HL2.out; omega)⟩
              obtain ⟨bx, ox, rfl, hcx⟩ := RowF.at oc_len (HRD2.out.below HBc.out) hx
              have HCx : Hid (wc.rangeAt bx (ox + k * 10) (oc x)) := hcx
              have HLx : Hid (wc.rangeAt bx (ox + k * 10 + 1) (sc x.a)) := range_at hcx
              have HXk : Hid (l2[k]? = some x) := hx
              have HHs : Hid (Calls Try.prog 11 #[ptr la, sv x.a] wc fun e w' => e = .returned (.bool (hasO x.a (Ob UA))) ∧ Below wc.heap.size wc w') := has11b HDc.out.a.at_ x.a
              clear hx hcx
              cases hh : hasO x.a (Ob UA)
              · rw [hh] at HHs
                have HN0 : Hid (hasO x.a (Ob UA) = false) := hh
                clear hh
                have tkI : Hid True := trivial
                go_wp2_with (first
                  | (refine wpList_okw rfl (exec_load24n (n := x.a) (.tmp 104) rfl rfl HLx.out) ?_)
                  | (go_at_call 11; go_must (refine HHs.out.mono ?_; rintro e wh ⟨rfl, hb⟩; have HBh : Hid (Below W.heap.size W wh) := bnext HBc.out hb; have HDh : Hid (Duo W.heap.size wh la va ta ma LA UA lb vb tb mb LB UB) := HDc.out.below hb; have HOh : Hid (wh.ownsRow 0 36 10 (.slice (some ⟨g, 0, none⟩) N c5) N (flat oc m)) := own_below HO3.out hb; have HIh : Hid (Calls Try.prog 10 #[ptr lb, ov x] wh (InsBb W wh la va ta ma LA UA lb tb UB x)) := HDh.out.insB HBh.out (by omega) ((HQ2.out x (List.mem_of_getElem? HXk.out)).1.below HBh.out) (HQ2.out x (List.mem_of_getElem? HXk.out)).2; have HXh : Hid (wh.rangeAt bx (ox + k * 10) (oc x)) := hcxB HCx.out hb; clear hb))
                  | (refine wpList_okw rfl (exec_load40 (q := x) (.tmp 112) rfl rfl (HXh.out)) ?_)
                  | (go_at_call 10; clear tkI; go_must (refine HIh.out.mono ?_; rintro e wA ⟨nA, kkA, vbA, mbA, LBA, UBA, rfl, d1, d2, d3, d4⟩; have HDcA : Hid (Duo W.heap.size wA la va ta ma LA UA lb vbA tb mbA LBA UBA) := d1; have HIA : Hid (InsB UB x UBA nA kkA) := d2; have HKA : Hid (KeepsO wh wA) := d3; have HBA : Hid (Below W.heap.size W wA) := d4; have HIq : Hid (Calls Try.prog 10 #[ptr lb, ov q] wA (InsBb W wA la va ta ma LA UA lb tb UBA q)) := HDcA.out.insB HBA.out (by have := HIA.out.len; omega) ((HQO.out q HqO.out).1.below HBA.out) (HQO.out q HqO.out).2; have HLq : Hid (wA.rangeAt g (k * 10) (oc q)) := Row.load ⟨hmN, HKA.out _ _ _ HOh.out⟩ HQk.out; clear d1 d2 d3 d4))
                  | (refine wpList_okw rfl (exec_load40 (q := q) (.tmp 122) rfl rfl (HLq.out)) ?_)
                  | (go_at_call 10; go_must (refine HIq.out.mono ?_; rintro e wB ⟨nB, kkB, vbB, mbB, LBB, UBB, rfl, d1, d2, d3, d4⟩; have HDcB : Hid (Duo W.heap.size wB la va ta ma LA UA lb vbB tb mbB LBB UBB) := d1; have HIB : Hid (InsB UBA q UBB nB kkB) := d2; have HKB : Hid (KeepsO wA wB) := d3; have HBB : Hid (Below W.heap.size W wB) := d4; clear d1 d2 d3 d4)))
                go_roundw
                case rel =>
                  refine ⟨k + 1, vbB, mbB, LBB, UBB, by go_num, by omega, by have := HIA.out.len; have := HIB.out.len; omega, HDcB, ?_, HKB.out _ _ _ (HKA.out _ _ _ HOh.out), HBB⟩
                  show HoldB _ _ _ _
                  rw [take_more HQk.out]
                  exact (HHc.out.more HN0.out (List.mem_of_getElem? HXk.out) HIA.out).own HDcA.out.a.at_.str HqA.out HIB.out
                case measure => simp [intOf]; omega
              · rw [hh] at HHs
                clear hh
                go_wp2_with (first
                  | (refine wpList_okw rfl (exec_load24n (n := x.a) (.tmp 104) rfl rfl HLx.out) ?_)
                  | (go_at_call 11; go_must (refine HHs.out.mono ?_; rintro e wh ⟨rfl, hb⟩; have HBh : Hid (Below W.heap.size W wh) := bnext HBc.out hb; have HDh : Hid (Duo W.heap.size wh la va ta ma LA UA lb vb tb mb LB UB) := HDc.out.below hb; have HOh : Hid (wh.ownsRow 0 36 10 (.slice (some ⟨g, 0, none⟩) N c5) N (flat oc m)) := own_below HO3.out hb; have HIq : Hid (Calls Try.prog 10 #[ptr lb, ov q] wh (InsBb W wh la va ta ma LA UA lb tb UB q)) := HDh.out.insB HBh.out (by omega) ((HQO.out q HqO.out).1.below HBh.out) (HQO.out q HqO.out).2; have HLq : Hid (wh.rangeAt g (k * 10) (oc q)) := Row.load ⟨hmN, HOh.out⟩ HQk.out; clear hb))
                  | (refine wpList_okw rfl (exec_load40 (q := q) (.tmp 122) rfl rfl (HLq.out)) ?_)
                  | (go_at_call 10; go_must (refine HIq.out.mono ?_; rintro e wB ⟨nB, kkB, vbB, mbB, LBB, UBB, rfl, d1, d2, d3, d4⟩; have HDcB : Hid (Duo W.heap.size wB la va ta ma LA UA lb vbB tb mbB LBB UBB) := d1; have HIB : Hid (InsB UB q UBB nB kkB) := d2; have HKB : Hid (KeepsO wh wB) := d3; have HBB : Hid (Below W.heap.size W wB) := d4; clear d1 d2 d3 d4)))
                go_roundw
                case rel =>
                  refine ⟨k + 1, vbB, mbB, LBB, UBB, by go_num, by omega, by have := HIB.out.len; omega, HDcB, ?_, HKB.out _ _ _ HOh.out, HBB⟩
                  show HoldB _ _ _ _
                  rw [take_more HQk.out]
                  exact HHc.out.own HDh.out.a.at_.str HqA.out HIB.out
                case measure => simp [intOf]; omega
            · have hkLI : ¬ (k : Int) < (L2 : Int) := by omega
              have HIq : Hid (Calls Try.prog 10 #[ptr lb, ov q] wc (InsBb W wc la va ta ma LA UA lb tb UB q)) := HDc.out.insB HBc.out (by omega) ((HQO.out q HqO.out).1.below HBc.out) (HQO.out q HqO.out).2
              go_wp2_with (first
                | (refine wpList_okw rfl (exec_load40 (q := q) (.tmp 122) rfl rfl (Row.load ⟨hmN, HO3.out⟩ HQk.out)) ?_)
                | (go_at_call 10; go_must (refine HIq.out.mono ?_; rintro e wB ⟨nB, kkB, vbB, mbB, LBB, UBB, rfl, d1, d2, d3, d4⟩; have HDcB : Hid (Duo W.heap.size wB la va ta ma LA UA lb vbB tb mbB LBB UBB) := d1; have HIB : Hid (InsB UB q UBB nB kkB) := d2; have HKB : Hid (KeepsO wc wB) := d3; have HBB : Hid (Below W.heap.size W wB) := d4; clear d1 d2 d3 d4)))
              go_roundw
              case rel =>
                refine ⟨k + 1, vbB, mbB, LBB, UBB, by go_num, by omega, by have := HIB.out.len; omega, HDcB, ?_, HKB.out _ _ _ HO3.out, HBB⟩
                show HoldB _ _ _ _
                rw [take_more HQk.out]
                exact HHc.out.own HDc.out.a.at_.str HqA.out HIB.out
              case measure => simp [intOf]; omega
          have hkNI : ¬ (k : Int) < (N : Int) := by omega
          have HHf : Hid (HoldB UA UB l2 m) := by
            have := HHc.out
            rwa [List.take_of_length_le (by omega)] at this
          clear HHc
          by_cases hkL : k < L2
          · have hkLI : (k : Int) < (L2 : Int) := by omega
            obtain ⟨x, hx⟩ : ∃ x, l2[k]? = some x := ⟨_, List.getElem?_eq_getElem (by have := HL2.out; omega)⟩
            obtain ⟨bx, ox, rfl, hcx⟩ := RowF.at oc_len (HRD2.out.below HBc.out) hx
            have HCx : Hid (wc.rangeAt bx (ox + k * 10) (oc x)) := hcx
            have HLx : Hid (wc.rangeAt bx (ox + k * 10 + 1) (sc x.a)) := range_at hcx
            have HXk : Hid (l2[k]? = some x) := hx
            have HHs : Hid (Calls Try.prog 11 #[ptr la, sv x.a] wc fun e w' => e = .returned (.bool (hasO x.a (Ob UA))) ∧ Below wc.heap.size wc w') := has11b HDc.out.a.at_ x.a
            clear hx hcx
            cases hh : hasO x.a (Ob UA)
            · rw [hh] at HHs
              have HN0 : Hid (hasO x.a (Ob UA) = false) := hh
              clear hh
              go_wp2_with (first
                | (refine wpList_okw rfl (exec_load24n (n := x.a) (.tmp 104) rfl rfl HLx.out) ?_)
                | (go_at_call 11; go_must (refine HHs.out.mono ?_; rintro e wh ⟨rfl, hb⟩; have HBh : Hid (Below W.heap.size W wh) := bnext HBc.out hb; have HDh : Hid (Duo W.heap.size wh la va ta ma LA UA lb vb tb mb LB UB) := HDc.out.below hb; have HOh : Hid (wh.ownsRow 0 36 10 (.slice a5 N c5) N (flat oc m)) := own_below HO3.out hb; have HIh : Hid (Calls Try.prog 10 #[ptr lb, ov x] wh (InsBb W wh la va ta ma LA UA lb tb UB x)) := HDh.out.insB HBh.out (by omega) ((HQ2.out x (List.mem_of_getElem? HXk.out)).1.below HBh.out) (HQ2.out x (List.mem_of_getElem? HXk.out)).2; have HXh : Hid (wh.rangeAt bx (ox + k * 10) (oc x)) := hcxB HCx.out hb; clear hb))
                | (refine wpList_okw rfl (exec_load40 (q := x) (.tmp 112) rfl rfl (HXh.out)) ?_)
                | (go_at_call 10; go_must (refine HIh.out.mono ?_; rintro e wA ⟨nA, kkA, vbA, mbA, LBA, UBA, rfl, d1, d2, d3, d4⟩; have HDcA : Hid (Duo W.heap.size wA la va ta ma LA UA lb vbA tb mbA LBA UBA) := d1; have HIA : Hid (InsB UB x UBA nA kkA) := d2; have HKA : Hid (KeepsO wh wA) := d3; have HBA : Hid (Below W.heap.size W wA) := d4; clear d1 d2 d3 d4)))
              go_roundw
              case rel =>
                refine ⟨k + 1, vbA, mbA, LBA, UBA, by go_num, by omega, by have := HIA.out.len; omega, HDcA, ?_, HKA.out _ _ _ HOh.out, HBA⟩
                show HoldB _ _ _ _
                rw [List.take_of_length_le (by omega)]
                exact HHf.out.more HN0.out (List.mem_of_getElem? HXk.out) HIA.out
              case measure => simp [intOf]; omega
            · rw [hh] at HHs
              clear hh
              go_wp2_with (first
                | (refine wpList_okw rfl (exec_load24n (n := x.a) (.tmp 104) rfl rfl HLx.out) ?_)
                | (go_at_call 11; go_must (refine HHs.out.mono ?_; rintro e wh ⟨rfl, hb⟩; have HBh : Hid (Below W.heap.size W wh) := bnext HBc.out hb; have HDh : Hid (Duo W.heap.size wh la va ta ma LA UA lb vb tb mb LB UB) := HDc.out.below hb; have HOh : Hid (wh.ownsRow 0 36 10 (.slice a5 N c5) N (flat oc m)) := own_below HO3.out hb; clear hb)))
              go_roundw
              case rel =>
                refine ⟨k + 1, vb, mb, LB, UB, by go_num, by omega, by omega, HDh, ?_, HOh, HBh⟩
                show HoldB _ _ _ _
                rw [List.take_of_length_le (by omega)]
                exact HHf.out
              case measure => simp [intOf]; omega
          have hkLI : ¬ (k : Int) < (L2 : Int) := by omega
          have HHC : Hid (HoldC UA UB l2) := HHf.out.ready HHA.out HM.out
          clear HHf HO3 hk hul hkN hkL
          go_wp2
          clear hkNI hkLI
          go_loopw [15] (fun i wd => ∃ (k : Nat) (vb : Value) (mb : Option Nat) (LB : List IT) (UB : List ST), i = .int .i64 (k : Int) ∧ k ≤ L2 ∧ Hid (Duo W.heap.size wd la va ta ma LA UA lb vb tb mb LB UB) ∧ Hid (HoldC UA UB (l2.drop k)) ∧ Hid (Below W.heap.size W wd)) (fun i _ => L2 - (intOf i).toNat)
          case atStart => exact ⟨0, vb, mb, LB, UB, rfl, Nat.zero_le _, HDc, HHC, HBc⟩
          case round =>
            obtain ⟨p, vd, md, LD, UD, rfl, hp, HDd, HHd, HBd⟩ := hrel
            clear HDc HHC HBc
            rename World => wd
            by_cases hpL : p < L2
            · have hpLI : (p : Int) < (L2 : Int) := by omega
              obtain ⟨x, hx⟩ : ∃ x, l2[p]? = some x := ⟨_, List.getElem?_eq_getElem (by have := HL2.out; omega)⟩
              obtain ⟨bx, ox, rfl, hcx⟩ := RowF.at oc_len (HRD2.out.below HBd.out) hx
              have HLx : Hid (wd.rangeAt bx (ox + p * 10 + 1) (sc x.a)) := range_at hcx
              have HXk : Hid (l2[p]? = some x) := hx
              have HHs : Hid (Calls Try.prog 11 #[ptr la, sv x.a] wd fun e w' => e = .returned (.bool (hasO x.a (Ob UA))) ∧ Below wd.heap.size wd w') := has11b HDd.out.a.at_ x.a
              clear hx hcx
              cases hh : hasO x.a (Ob UA)
              · rw [hh] at HHs
                have HN0 : Hid (hasO x.a (Ob UA) = false) := hh
                clear hh
                go_wp2_with (first
                  | (refine wpList_okw rfl (exec_load24n (n := x.a) (.tmp 135) rfl rfl HLx.out) ?_)
                  | (go_at_call 11; go_must (refine HHs.out.mono ?_; rintro e wh ⟨rfl, hb⟩; have HBh : Hid (Below W.heap.size W wh) := bnext HBd.out hb; have HDh : Hid (Duo W.heap.size wh la va ta ma LA UA lb vd tb md LD UD) := HDd.out.below hb; have HLh : Hid (wh.rangeAt bx (ox + p * 10 + 1) (sc x.a)) := hcxB HLx.out hb; have HRm : Hid (Calls Try.prog 12 #[ptr lb, sv x.a] wh (RemBb W wh la va ta ma LA UA lb tb UD x.a)) := HDh.out.remB HBh.out x.a; clear hb))
                  | (refine wpList_okw rfl (exec_load24n (n := x.a) (.tmp 143) rfl rfl HLh.out) ?_)
                  | (go_at_call 12; go_must (refine HRm.out.mono ?_; rintro e wA ⟨nA, kkA, vA, mA, LA', UA', rfl, d1, d2, d4⟩; have HDA : Hid (Duo W.heap.size wA la va ta ma LA UA lb vA tb mA LA' UA') := d1; have HIA : Hid (RemB UD x.a UA' nA kkA) := d2; have HBA : Hid (Below W.heap.size W wA) := d4; clear d1 d2 d4)))
                go_roundw
                case rel =>
                  refine ⟨p + 1, vA, mA, LA', UA', by go_num, by omega, HDA, ?_, HBA⟩
                  have h0 := HHd.out
                  rw [drop_cons HXk.out] at h0
                  exact h0.go HN0.out HIA.out
                case measure => simp [intOf]; omega
              · rw [hh] at HHs
                have HN0 : Hid (hasO x.a (Ob UA) = true) := hh
                clear hh
                go_wp2_with (first
                  | (refine wpList_okw rfl (exec_load24n (n := x.a) (.tmp 135) rfl rfl HLx.out) ?_)
                  | (go_at_call 11; go_must (refine HHs.out.mono ?_; rintro e wh ⟨rfl, hb⟩; have HBh : Hid (Below W.heap.size W wh) := bnext HBd.out hb; have HDh : Hid (Duo W.heap.size wh la va ta ma LA UA lb vd tb md LD UD) := HDd.out.below hb; clear hb)))
                go_roundw
                case rel =>
                  refine ⟨p + 1, vd, md, LD, UD, by go_num, by omega, HDh, ?_, HBh⟩
                  have h0 := HHd.out
                  rw [drop_cons HXk.out] at h0
                  exact h0.keep HN0.out
                case measure => simp [intOf]; omega
            have hpLI : ¬ (p : Int) < (L2 : Int) := by omega
            have HE : Hid (Ob UA = Ob UD) := by
              have h0 := HHd.out
              rw [List.drop_of_length_le (by have := HL2.out; omega)] at h0
              exact h0.eq HDd.out.a.at_.str HDd.out.b.at_.str
            clear HHd hp hpL
            have HOp : Hid (Calls Try.prog 14 #[ptr la] wd (OpsAns wd UA)) := ops14 HDd.out.a.at_
            have tk1 : Hid True := trivial
            have tk2 : Hid True := trivial
            have tk3 : Hid True := trivial
            have tk4 : Hid True := trivial
            have tk5 : Hid True := trivial
            have tk6 : Hid True := trivial
            have tk7 : Hid True := trivial
            have tk8 : Hid True := trivial
            go_wp2_with (first
              | (go_at_call 14; clear tk1; go_must (refine HOp.out.mono ?_; rintro e u1 ⟨v1, O1, rfl, q1, q2, q3⟩; have HU1 : Hid (Below wd.heap.size wd u1) := q3; have HO1 : Hid (OwnO wd.heap.size u1 v1 O1 ∧ CopO wd.heap.size u1 (opsS UA) O1) := ⟨q1, q2⟩; have HOq : Hid (Calls Try.prog 14 #[ptr lb] u1 (OpsAns u1 UD)) := ops14 (HDd.out.b.at_.below q3); clear q1 q2 q3))
              | (go_at_call 14; clear tk2; go_must (refine HOq.out.mono ?_; rintro e u2 ⟨v2, O2, rfl, q1, q2, q3⟩; have HU2 : Hid (Below wd.heap.size wd u2) := bnext HU1.out q3; have HAq : Hid (Calls Try.prog 13 #[v1, v2] u2 fun e w' => e = .returned (.bool true) ∧ Below u2.heap.size u2 w') := all20 (HO1.out.1.below q3).row q1.row (fun q hq => ((HO1.out.2.below q3).own q hq).rd) (fun q hq => (q2.own q hq).rd) (HO1.out.2.map.trans (HE.out.trans q2.map.symm)); clear q1 q2 q3))
              | (go_at_call 13; go_must (refine HAq.out.mono ?_; rintro e u3 ⟨rfl, hb⟩; have HU3 : Hid (Below wd.heap.size wd u3) := bnext HU2.out hb; have HTa : Hid (Calls Try.prog 16 #[ptr la] u3 fun e w' => e = .returned (ptr ta) ∧ Below u3.heap.size u3 w') := tree16 (HDd.out.a.at_.below HU3.out).blk; clear hb))
              | (go_at_call 16; clear tk3; go_must (refine HTa.out.mono ?_; rintro e u4 ⟨rfl, hb⟩; have HU4 : Hid (Below wd.heap.size wd u4) := bnext HU3.out hb; have HTb : Hid (Calls Try.prog 16 #[ptr lb] u4 fun e w' => e = .returned (ptr tb) ∧ Below u4.heap.size u4 w') := tree16 (HDd.out.b.at_.below HU4.out).blk; clear hb))
              | (go_at_call 16; clear tk4; go_must (refine HTb.out.mono ?_; rintro e u5 ⟨rfl, hb⟩; have HU5 : Hid (Below wd.heap.size wd u5) := bnext HU4.out hb; have HSa : Hid (Calls Try.prog 15 #[ptr ta, ptr tb] u5 fun e w' => e = .returned (.bool true) ∧ Below u5.heap.size u5 w') := same29y (HDd.out.a.at_.below HU5.out).tree (HDd.out.b.at_.below HU5.out).tree (HDd.out.a.at_.lst.trans (HDd.out.b.at_.lstB HE.out (okv_steps HDd.out.a.at_)).symm); clear hb))
              | (go_at_call 15; clear tk5; go_must (refine HSa.out.mono ?_; rintro e u6 ⟨rfl, hb⟩; have HU6 : Hid (Below wd.heap.size wd u6) := bnext HU5.out hb; have HTc : Hid (Calls Try.prog 16 #[ptr la] u6 fun e w' => e = .returned (ptr ta) ∧ Below u6.heap.size u6 w') := tree16 (HDd.out.a.at_.below HU6.out).blk; clear hb))
              | (go_at_call 16; clear tk6; go_must (refine HTc.out.mono ?_; rintro e u7 ⟨rfl, hb⟩; have HU7 : Hid (Below wd.heap.size wd u7) := bnext HU6.out hb; have HOr : Hid (Calls Try.prog 14 #[ptr la] u7 (OpsAns u7 UA)) := ops14 (HDd.out.a.at_.below HU7.out); clear hb))
              | (go_at_call 14; clear tk7; go_must (refine HOr.out.mono ?_; rintro e u8 ⟨v8, O8, rfl, q1, q2, q3⟩; have HU8 : Hid (Below wd.heap.size wd u8) := bnext HU7.out q3; have HM8 : Hid (O8.map bare = Ob UA ∧ ∀ q ∈ O8, Okv q) := ⟨q2.map, fun q hq => okv_of (q2.own q hq).rd⟩; have HBu : Hid (Calls Try.prog 17 #[v8] u8 (BuildAns u8 O8)) := build27 q1.row (by have h8 := congrArg List.length HM8.out.1; rw [List.length_map, Ob_len] at h8; omega) (fun q hq => ⟨(q2.own q hq).rd, light_lens HDd.out.a.at_ HM8.out.1 q hq⟩); clear q1 q2 q3))
              | (go_at_call 17; go_must (refine HBu.out.mono ?_; rintro e u9 ⟨t9, m9, L9, O9, rfl, hP, hF, hM, hl9, ht9, hm9, hb⟩; have HU9 : Hid (Below wd.heap.size wd u9) := bnext HU8.out hb; have HSb : Hid (Calls Try.prog 15 #[ptr ta, ptr t9] u9 fun e w' => e = .returned (.bool true) ∧ Below u9.heap.size u9 w') := same29y (HDd.out.a.at_.below HU9.out).tree hP (build_same HDd.out.a.at_ HM8.out.1 HM8.out.2 hF hM); clear hP hF hM hl9 ht9 hm9 hb))
              | (go_at_call 15; clear tk8; go_must (refine HSb.out.mono ?_; rintro e ua ⟨rfl, hb⟩; have HUa : Hid (Below wd.heap.size wd ua) := bnext HU9.out hb; clear hb))
              | (go_at_call 7; go_must (refine (HAl.out _).mono ?_; rintro e ub ⟨rfl, hb⟩; have HUb : Hid (Below wd.heap.size wd ub) := bnext HUa.out hb; clear hb)))
            go_ret
            exact ⟨rfl, bnext HBd.out HUb.out⟩
end Go.Proofs.Ythnjbjlhfohpfaa
