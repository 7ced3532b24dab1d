/-
  The walk of the law on two oracles that are given texts that are alike.
-/
import Derived.Test.YtcacioogklgahaaBlind
import Derived.StillTailTactics
import Derived.Deep.QuietTactic
import Derived.BigQuiet
namespace Go.Proofs.Ytcacioogklgahaa
set_option linter.unusedVariables false
set_option synthInstance.maxSize 20000
open Classical
open Go.RowKit Go.Maps

theorem RdU.below' {w w' : World} {v : Value} {l : List Int} (h : RdU w v l) (hb : Below w.heap.size w w') : RdU w' v l := h.turn (ft := []) (Turn.of_below hb) (fun _ _ h => by cases h)

theorem bdrewN (w : World) (n : Nat) : Below w.heap.size w (w.drewN n) := ⟨rfl, rfl, rfl, Nat.le_refl _, fun _ _ => rfl⟩

theorem RdR.at {W : World} {v : Value} {n : Nat} {V : Nat → Value} {L : Nat → List Int} (h : RdR W v n V L) {a : Option Addr} {cap : Nat} (hv : v = .slice a n cap) {i : Nat} (hi : i < n) :
    ∃ b off av cv, a = some ⟨b, off, none⟩ ∧ Oct (L i) ∧ ∀ w, Below W.heap.size W w → w.cell? ⟨b, off + i, none⟩ = some (.slice av (L i).length cv) ∧ Rd w (.slice av (L i).length cv) (L i) := by
  obtain ⟨a', cap', rfl, h1, h2, h3⟩ := h
  cases hv
  obtain ⟨b, off, rfl, hc⟩ := h3 (by omega)
  obtain ⟨c1, c2⟩ := hc i hi
  obtain ⟨av, cv, e⟩ := c2.len
  rw [e] at c1 c2
  exact ⟨b, off, av, cv, rfl, c2.oct, fun w hb => ⟨(below_grown hb).cell c1 (fun e => by cases e), c2.below hb⟩⟩

set_option maxHeartbeats 4000000 in
set_option maxRecDepth 20000 in
theorem blind_core (dv va vb : Value) (ds : List Int) (na nb : Nat) (VA VB : Nat → Value) (LA LB : Nat → List Int) (W : World) (hd : RdU W dv ds) (ha : RdR W va na VA LA) (hb : RdR W vb nb VB LB) (h1 : ds.length ≤ 100) (h2 : na ≤ 20) (h3 : nb ≤ 20) :
    Calls Try.prog 6 #[dv, va, vb] W fun e w' => e = .returned (.bool true) ∧ Below W.heap.size W w' := by
  have HD : Hid (RdU W dv ds) := hd
  have HA : Hid (RdR W va na VA LA) := ha
  have HB : Hid (RdR W vb nb VB LB) := hb
  have hdd := hd.1
  have tw := twin_key hdd
  obtain ⟨_, ad, cd, rfl, hd1, hd2, _⟩ := hd
  obtain ⟨aa, ca, rfl, ha1, ha2, _⟩ := ha
  obtain ⟨ab, cb, rfl, hb1, hb2, _⟩ := hb
  unfold maxLen at hd2 ha2 hb2
  obtain ⟨k, hk⟩ : ∃ k, St.fresh ⟨ds, []⟩ = k := ⟨_, rfl⟩
  obtain ⟨S1, hS1⟩ : ∃ S1, St.put ⟨ds, []⟩ .key = S1 := ⟨_, rfl⟩
  have hn1 : S1.rows.length = 1 := by rw [← hS1, put_len]; rfl
  rw [hk, hS1] at tw
  have TW : Hid (Twin k S1 S1) := tw
  have KK : Hid (St.fresh ⟨ds, []⟩ = k) := hk
  have KS1 : Hid (St.put ⟨ds, []⟩ .key = S1) := hS1
  have uk : U64 k := (at_ok tw.goodS tw.keyS).1
  clear hk hS1 tw hdd
  go_enter Try.func6, Try.ntmps6
  go_wp2_with (first
    | (go_at_call 11; go_must (first
      | (refine (new_both W w1 b1 f1 ⟨ds, []⟩ HA1.out _ ds (HD.out.below' HA1.out.bel) (by omega)).mono ?_; rintro e w2 ⟨b2, rfl, f2, h2⟩; have HB2 : Hid (Both W w2 b1 b2 f1 f2 ⟨ds, []⟩ ⟨ds, []⟩) := h2; clear HA1 h2)
      | (refine (new_at W W (Below.refl _ W) _ ds HD.out (by omega)).mono ?_; rintro e w1 ⟨b1, rfl, f1, hA, hn⟩; have HA1 : Hid (At W w1 b1 f1 ⟨ds, []⟩) := hA; clear hA hn)))
    | (go_at_call 16; go_must (first
      | (refine (key_any w2 b1 f1 ⟨ds, []⟩ HB2.out.one.rep (by simp)).mono ?_; rw [KK.out, KS1.out]; rintro e w3 ⟨rfl, hl⟩; obtain ⟨f3, h3⟩ := HB2.out.left hl; have HB3 : Hid (Both W w3 b1 b2 f3 f2 S1 ⟨ds, []⟩) := h3; clear HB2 h3 hl)
      | (refine (key_any w3 b2 f2 ⟨ds, []⟩ HB3.out.two.rep (by simp)).mono ?_; rw [KK.out, KS1.out]; rintro e w4 ⟨rfl, hl⟩; obtain ⟨f4, h4⟩ := HB3.out.turned.left hl; have HB4 : Hid (Both W w4 b1 b2 f3 f4 S1 S1) := h4.turned; clear HB3 h4 hl))))
  go_loopw [11] (fun i wr => ∃ (m : Nat) (g1 g2 : List Nat) (S T : St), i = .int .i64 m ∧ m ≤ na ∧ m ≤ nb ∧ Both W wr b1 b2 g1 g2 S T ∧ Twin k S T ∧ S.rows.length ≤ 1 + m) (fun i _ => na - (intOf i).toNat)
  case atStart => exact ⟨0, f3, f4, S1, S1, rfl, by omega, by omega, HB4.out, TW.out, by omega⟩
  case round =>
    obtain ⟨m, g1, g2, S, T, rfl, hma, hmb, hBr, htw, hrl⟩ := hrel
    have HBr : Hid (Both W wr b1 b2 g1 g2 S T) := hBr
    have HTW : Hid (Twin k S T) := htw
    clear hBr htw HB4 TW KK KS1
    by_cases hna : m < na
    · by_cases hnb : m < nb
      · obtain ⟨ba, oa, av, cv, rfl, hoa, hca0⟩ := HA.out.at rfl hna
        obtain ⟨bb, ob, bv, dv, rfl, hob, hcb0⟩ := HB.out.at rfl hnb
        have HCA : Hid (∀ w, Below W.heap.size W w → w.cell? ⟨ba, oa + m, none⟩ = some (.slice av (LA m).length cv) ∧ Rd w (.slice av (LA m).length cv) (LA m)) := hca0
        have HCB : Hid (∀ w, Below W.heap.size W w → w.cell? ⟨bb, ob + m, none⟩ = some (.slice bv (LB m).length dv) ∧ Rd w (.slice bv (LB m).length dv) (LB m)) := hcb0
        obtain ⟨hca, rda⟩ := hca0 wr HBr.out.one.bel
        obtain ⟨hcb, rdb⟩ := hcb0 wr HBr.out.one.bel
        have RDA : Hid (Rd wr (.slice av (LA m).length cv) (LA m)) := rda
        have RDB : Hid (Rd wr (.slice bv (LB m).length dv) (LB m)) := rdb
        have hmi : (m : Int) < (na : Int) := by omega
        have hmj : (m : Int) < (nb : Int) := by omega
        have hol := HTW.out.len
        clear rda rdb hca0 hcb0
        go_upto_region 8 with fail
        by_cases hla : (LA m).length ≤ 1500
        · have hda : decide ((1500 : Int) < ((LA m).length : Int)) = false := decide_eq_false (by omega)
          by_cases hlb : (LB m).length ≤ 1500
          · have hdb : decide ((1500 : Int) < ((LB m).length : Int)) = false := decide_eq_false (by omega)
            go_still_tail 23, (by kernel_rfl)
            by_cases hcls : cls (LA m).length = cls (LB m).length
            · obtain ⟨r, er, S', T', e1, e2, tw', hl'⟩ := HTW.out.seal (by omega) hoa hob hcls
              have KSA : Hid (S.seal k [] (LA m) = ((r, er), S')) := e1
              have KSB : Hid (T.seal k [] (LB m) = ((r, er), T')) := e2
              have HT' : Hid (Twin k S' T') := tw'
              have HCL : Hid (cls (LA m).length = cls (LB m).length) := hcls
              clear e1 e2 tw' hcls
              go_wp2_with (first
                | (go_at_call 20; go_must (refine (alike_any _ _ (LA m) (LB m) _ (RDA.out.below (Below.refl _ wr).drew) (RDB.out.below (Below.refl _ wr).drew) (by omega) (by omega)).mono ?_; rw [decide_eq_true HCL.out]; rintro e w5 ⟨rfl, hb5⟩; have HB5 : Hid (Both W w5 b1 b2 g1 g2 S T) := HBr.out.below (bnext (Below.refl _ wr).drew hb5); have hca5 := (HCA.out w5 HB5.out.one.bel).1; clear HBr hb5))
                | (go_at_call 17; go_must (first
                  | (refine (seal_any w5 b1 g1 S HB5.out.one.rep (by omega) k uk _ [] (rd_nil _) _ (LA m) ((HCA.out w5 HB5.out.one.bel).2) (by omega)).mono ?_; rw [KSA.out]; rintro e w6 ⟨v6, rfl, hl⟩; obtain ⟨g3, hB6, rd6, keep6⟩ := HB5.out.leftB hl; have HB6 : Hid (Both W w6 b1 b2 g3 g2 S' T) := hB6; have hcb6 := (HCB.out w6 hB6.one.bel).1; have KEEP6 : Hid (∀ w'', Turn g2 w6 w'' → Rd w'' v6 r) := keep6; clear HB5 hl hB6 rd6 keep6 hca5)
                  | (refine (seal_any w6 b2 g2 T HB6.out.two.rep (by omega) k uk _ [] (rd_nil _) _ (LB m) ((HCB.out w6 HB6.out.one.bel).2) (by omega)).mono ?_; rw [KSB.out]; rintro e w7 ⟨v7, rfl, hl⟩; have RX7 : Hid (Rd w7 v6 r) := KEEP6.out w7 hl.turn; obtain ⟨g4, hB7, rd7, _⟩ := HB6.out.turned.leftB hl; have HB7 : Hid (Both W w7 b1 b2 g3 g4 S' T') := hB7.turned; have RD7 : Hid (Rd w7 v7 r) := rd7; clear HB6 hl hB7 rd7 KEEP6 hcb6)))
                | (go_at_call 15; go_must (refine (same_any _ _ r r w7 RX7.out RD7.out).mono ?_; rw [decide_eq_true (rfl : r = r)]; rintro e w8 ⟨rfl, hb8⟩; have HB8 : Hid (Both W w8 b1 b2 g3 g4 S' T') := HB7.out.below hb8; clear HB7 RX7 RD7 hb8)))
              go_roundw
              case rel => exact ⟨m + 1, g3, g4, S', T', by go_num, by omega, by omega, HB8.out, HT'.out, by omega⟩
              case measure => simp [intOf]; omega
            · have HCL : Hid (¬ cls (LA m).length = cls (LB m).length) := hcls
              clear hcls
              go_wp2_with (first
                | (go_at_call 20; go_must (refine (alike_any _ _ (LA m) (LB m) _ (RDA.out.below (Below.refl _ wr).drew) (RDB.out.below (Below.refl _ wr).drew) (by omega) (by omega)).mono ?_; rw [decide_eq_false HCL.out]; rintro e w5 ⟨rfl, hb5⟩; have HB5 : Hid (Both W w5 b1 b2 g1 g2 S T) := HBr.out.below (bnext (Below.refl _ wr).drew hb5); have hca5 := (HCA.out w5 HB5.out.one.bel).1; clear HBr hb5))
                | (go_at_call 10; go_must (refine (alive_any _).mono ?_; rintro e w12 ⟨rfl, hb12⟩)))
              go_ret
              exact ⟨rfl, bnext HB5.out.one.bel hb12⟩
          · have hdb : decide ((1500 : Int) < ((LB m).length : Int)) = true := decide_eq_true (by omega)
            go_quiet (fail)
            go_wp2_with (go_at_call 10; go_must (refine (alive_any _).mono ?_; rintro e w12 ⟨rfl, hb12⟩))
            go_ret
            exact ⟨rfl, bnext HBr.out.one.bel (bnext (bdrewN wr _) hb12)⟩
        · have hda : decide ((1500 : Int) < ((LA m).length : Int)) = true := decide_eq_true (by omega)
          go_quiet (fail)
          go_wp2_with (go_at_call 10; go_must (refine (alive_any _).mono ?_; rintro e w12 ⟨rfl, hb12⟩))
          go_ret
          exact ⟨rfl, bnext HBr.out.one.bel (bnext (bdrewN wr _) hb12)⟩
      · go_wp2_with (go_at_call 10; go_must (refine (alive_any _).mono ?_; rintro e w12 ⟨rfl, hb12⟩))
        go_ret
        exact ⟨by simp, bnext HBr.out.one.bel hb12⟩
    · go_wp2_with (go_at_call 10; go_must (refine (alive_any _).mono ?_; rintro e w12 ⟨rfl, hb12⟩))
      go_ret
      exact ⟨by simp, bnext HBr.out.one.bel hb12⟩

set_option maxHeartbeats 4000000 in
theorem blind_walk (dv va vb : Value) (ds : List Int) (na nb : Nat) (VA VB : Nat → Value) (LA LB : Nat → List Int) (W : World) (hd : RdU W dv ds) (ha : RdR W va na VA LA) (hb : RdR W vb nb VB LB) :
    Calls Try.prog 6 #[dv, va, vb] W fun e w' => e = .returned (.bool true) ∧ Below W.heap.size W w' := by
  by_cases h1 : ds.length ≤ 100
  · by_cases h2 : na ≤ 20
    · by_cases h3 : nb ≤ 20
      · exact blind_core dv va vb ds na nb VA VB LA LB W hd ha hb h1 h2 h3
      · obtain ⟨_, ad, cd, rfl, hd1, hd2, _⟩ := hd
        obtain ⟨aa, ca, rfl, ha1, ha2, _⟩ := ha
        obtain ⟨ab, cb, rfl, hb1, hb2, _⟩ := hb
        unfold maxLen at hd2 ha2 hb2
        go_enter Try.func6, Try.ntmps6
        go_wp2_with (go_at_call 10; go_must (refine (alive_any _).mono ?_; rintro e w12 ⟨rfl, hb12⟩))
        go_ret
        exact ⟨rfl, hb12⟩
    · obtain ⟨_, ad, cd, rfl, hd1, hd2, _⟩ := hd
      obtain ⟨aa, ca, rfl, ha1, ha2, _⟩ := ha
      obtain ⟨ab, cb, rfl, hb1, hb2, _⟩ := hb
      unfold maxLen at hd2 ha2 hb2
      go_enter Try.func6, Try.ntmps6
      go_wp2_with (go_at_call 10; go_must (refine (alive_any _).mono ?_; rintro e w12 ⟨rfl, hb12⟩))
      go_ret
      exact ⟨rfl, hb12⟩
  · obtain ⟨_, ad, cd, rfl, hd1, hd2, _⟩ := hd
    obtain ⟨aa, ca, rfl, ha1, ha2, _⟩ := ha
    obtain ⟨ab, cb, rfl, hb1, hb2, _⟩ := hb
    unfold maxLen at hd2 ha2 hb2
    go_enter Try.func6, Try.ntmps6
    go_wp2_with (go_at_call 10; go_must (refine (alive_any _).mono ?_; rintro e w12 ⟨rfl, hb12⟩))
    go_ret
    exact ⟨rfl, hb12⟩

/-- Rows of bytes that came in. -/
theorem rdR_of_row {w : World} {a : Option Addr} {len cap : Nat} (A : Nat → Option Addr) (L C : Nat → Nat) (Z : Nat → List Int) {x : Addr} (hx : a = some x) (hl : len ≤ cap) (hm : cap ≤ maxLen)
    (h : ∀ r, r < cap → w.cell? (x.add r) = some (.slice (A r) (L r) (C r)) ∧ L r ≤ C r ∧ C r ≤ maxLen ∧ (Z r).length = C r ∧ (∀ n ∈ Z r, (Lit.int .u8 n).wf = true) ∧ (A r = none → C r = 0) ∧ ∀ a', A r = some a' → ∀ c, c < C r → w.cell? (a'.add c) = some (.int .u8 ((Z r).getD c 0))) :
    RdR w (.slice a len cap) len (fun r => .slice (A r) (L r) (C r)) (fun r => (Z r).take (L r)) := by
  subst hx
  refine ⟨some x, cap, rfl, hl, hm, fun hp => ?_⟩
  obtain ⟨b, off, spot⟩ := x
  have hspot : spot = none := by simpa [Addr.add] using World.cell?_spot (h 0 (by omega)).1
  subst hspot
  refine ⟨b, off, rfl, fun i hi => ?_⟩
  obtain ⟨g0, g1, g2, g3, g4, g5, g6⟩ := h i (by omega)
  rw [Addr.add_lit] at g0
  refine ⟨g0, ?_⟩
  show Rd w (.slice (A i) (L i) (C i)) ((Z i).take (L i))
  cases hA : A i with
  | none =>
    have c0 := g5 hA
    have l0 : L i = 0 := by omega
    have z0 : (Z i).take (L i) = [] := by rw [l0]; rfl
    rw [z0, l0, c0]
    exact rd_nil w
  | some a' =>
    exact rd_of_row (.inr ⟨a', rfl, g1, g2, g3, (fun c hc => g6 a' hA c (by omega)), g4⟩)
end Go.Proofs.Ytcacioogklgahaa
