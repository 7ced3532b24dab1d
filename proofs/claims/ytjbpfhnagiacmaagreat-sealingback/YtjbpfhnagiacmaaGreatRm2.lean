/-
  The calls on a room: Seal and Open of the program, of the document.
-/
import Derived.Test.YtjbpfhnagiacmaaGreatRmG
import Derived.Test.YtjbpfhnagiacmaaGreatSel
import Derived.Test.YtjbpfhnagiacmaaGreatOpn
import Derived.Test.YtjbpfhnagiacmaaGreatRSl
namespace Go.Proofs.YtjbpfhnagiacmaaGreat
set_option linter.unusedVariables false
set_option linter.unusedSimpArgs false
set_option synthInstance.maxSize 20000
set_option maxHeartbeats 2000000
set_option maxRecDepth 20000
open Go.RowKit Go.Maps
def sealM (S : St) (kk : Int × Int) (x y n : Int) (pl : List Int) : (List Int × Int) × St :=
  if placeB x y n = true then (if kk.2 = 0 then S.seal kk.1 (boundL x y n) pl else (([], kk.2), S)) else (([], 1), S)
def openM (S : St) (kk : Int × Int) (e : Ent) : List Int × Int :=
  if eRight e = true then (if e.n = -1 then ([], 10) else if kk.2 = 0 then S.open kk.1 (boundL e.w e.i e.n) e.b else ([], kk.2)) else ([], 1)
section
variable {w0 w : World} {o : Nat → Nat} {p : Rp} {S T : St} {M K : Sm} {A X B : Rg} {sv tv : Value} {N : Nat}
theorem keyPf {j rb ob : Nat} {r : Rg} (h : RIs w o j rb ob r) (n : Int) : ∀ w', Below w.heap.size w w' → Calls Tryz.prog 34 #[ptr rb, .int .i64 n] w' fun e w'' => e = .returned (.tuple #[.int .u64 (keyM r.ks n).1, .int .i64 (keyM r.ks n).2]) ∧ w'' = w' := fun w' hb =>
  key11 (h.mv (Mv.of_below (I := []) 0 hb) (by simp) (by simp)) n
theorem keyRf {j rb : Nat} {r : Rg} (h : RRIs w o j rb r) (n : Int) : ∀ w', Below w.heap.size w w' → Calls Tryz.prog 36 #[ptr rb, .int .i64 n] w' fun e w'' => e = .returned (.tuple #[.int .u64 (keyM r.ks n).1, .int .i64 (keyM r.ks n).2]) ∧ w'' = w' := fun w' hb =>
  rkey12 (h.mv (Mv.of_below (I := []) 0 hb) (by simp) (by simp)) n
theorem orc_seal9 {b j rb ob' : Nat} {r : Rg} (hO : OrcAt w o b S) (hR : RIs w o j rb ob' r) (hS : Ora S N) (hN : N ≤ 80000) {x y n : Int} (hk : U64 (keyM r.ks n).1) {v : Value} {pl : List Int} (hv : Rd w v pl) (hl : pl.length ≤ 1000000) :
    Calls Tryz.prog 9 #[ptr b, ptr rb, .int .i64 x, .int .i64 y, .int .i64 n, v] w fun e w' => ∃ v', e = .returned (.tuple #[v', .int .i64 (sealM S (keyM r.ks n) x y n pl).1.2]) ∧ ∃ o', OrcAt w' o' b (sealM S (keyM r.ks n) x y n pl).2 ∧ Kp0 w' o' v' (sealM S (keyM r.ks n) x y n pl).1.1 ∧ Mv [1] w o w' o' := by
  have hKy := keyPf hR n
  generalize keyM r.ks n = kk at *
  unfold sealM
  cases hp : placeB x y n with
  | false =>
    rw [if_neg (by simp)]
    refine (seal9_bad w hp _ _ _).mono ?_
    rintro e w' ⟨rfl, hb⟩
    exact ⟨_, rfl, newTo o w 0, hO.below hb, kp0_nil _ _, Mv.of_below 0 hb⟩
  | true =>
    rw [if_pos rfl]
    by_cases h0 : kk.2 = 0
    · rw [if_pos h0]
      rw [h0] at hKy
      refine (seal9_ok (Post := fun w1 v' k w' => k = (S.seal kk.1 (boundL x y n) pl).1.2 ∧ ∃ o', OrcAt w' o' b (S.seal kk.1 (boundL x y n) pl).2 ∧ Kp0 w' o' v' (S.seal kk.1 (boundL x y n) pl).1.1 ∧ Mv [1] w1 (newTo o w 0) w' o') hp hKy (fun w' u hb hu => ?_)).mono ?_
      · refine (orc_seal (hO.below hb) hS hN hk hu (hv.below hb) hl).mono ?_
        rintro e w'' ⟨v', rfl, o', h1, h2, h3⟩
        exact ⟨v', _, rfl, rfl, o', h1, h2, h3⟩
      · rintro e w' ⟨v', k, w1, rfl, hb, rfl, o', h1, h2, h3⟩
        exact ⟨v', rfl, o', h1, h2, (Mv.of_below (I := [1]) 0 hb).trans h3⟩
    · rw [if_neg h0]
      refine (seal9_no hp h0 hKy).mono ?_
      rintro e w' ⟨rfl, hb⟩
      exact ⟨_, rfl, newTo o w 0, hO.below hb, kp0_nil _ _, Mv.of_below 0 hb⟩
theorem orc_open12 {b j rb ob' : Nat} {r : Rg} (hO : OrcAt w o b S) (hR : RIs w o j rb ob' r) (hS : Ora S N) {e : Ent} {v : Value} (hv : Rd w v e.b) :
    Calls Tryz.prog 12 #[ptr b, ptr rb, ev e v] w fun z w' => ∃ v', z = .returned (.tuple #[v', .int .i64 (openM S (keyM r.ks e.n) e).2]) ∧ Rd w' v' (openM S (keyM r.ks e.n) e).1 ∧ Below w.heap.size w w' := by
  have hKy := keyPf hR e.n
  generalize keyM r.ks e.n = kk at *
  unfold openM
  cases hr : eRight e with
  | false =>
    rw [if_neg (by simp)]
    refine (open12_bad hv hr _ _).mono ?_
    rintro z w' ⟨rfl, hb⟩
    exact ⟨_, rfl, rd_nil _, hb⟩
  | true =>
    rw [if_pos rfl]
    by_cases hn : e.n = -1
    · rw [if_pos hn]
      refine (open12_plain hv hr hn _ _).mono ?_
      rintro z w' ⟨rfl, hb⟩
      exact ⟨_, rfl, rd_nil _, hb⟩
    · rw [if_neg hn]
      by_cases h0 : kk.2 = 0
      · rw [if_pos h0]
        rw [h0] at hKy
        refine (open12_ok (Post := fun w1 v' k w' => k = (S.open kk.1 (boundL e.w e.i e.n) e.b).2 ∧ Rd w' v' (S.open kk.1 (boundL e.w e.i e.n) e.b).1 ∧ Below w1.heap.size w1 w') hv hr hn hKy (fun w' u hb hu => ?_)).mono ?_
        · refine (orc_open (hO.below hb) hS kk.1 hu (hv.below hb)).mono ?_
          rintro z w'' ⟨v', rfl, h1, h2⟩
          exact ⟨v', _, rfl, rfl, h1, h2⟩
        · rintro z w' ⟨v', k, w1, rfl, hb, rfl, h1, h2⟩
          exact ⟨v', rfl, h1, bnext hb h2⟩
      · rw [if_neg h0]
        refine (open12_no hv hr hn h0 hKy).mono ?_
        rintro z w' ⟨rfl, hb⟩
        exact ⟨_, rfl, rd_nil _, hb⟩
theorem rorc_seal' {rr : Nat} (h : ROrc w0 w o rr S) (hS : Ora S N) (hN : N ≤ 80000) (k : Int) {u v : Value} {bd pl : List Int} (hu : Kp0 w o u bd) (hub : bd ≠ []) (hv : Rd w v pl) (hvo : ∀ k, v.ownBlock = some k → k < w.heap.size ∧ o k = 0) (hlen : pl.length ≤ 1000000) : Calls Tryz.prog 37 #[ptr rr, .int .u64 k, u, v] w fun e w' => ∃ v', e = .returned (.tuple #[v', .int .i64 (S.seal k bd pl).1.2]) ∧ ∃ o', ROrc w0 w' o' rr (S.seal k bd pl).2 ∧ Kp0 w' o' v' (S.seal k bd pl).1.1 ∧ Mv [8] w o w' o' := by
  obtain ⟨fr, sb, ha, h1, h2, h3⟩ := h
  have hks : ∀ k ∈ ksOf u ++ ksOf v, k < w.heap.size ∧ o k = 0 := fun k hk => by
    rcases List.mem_append.1 hk with e | e
    · have e' : u.ownBlock = some k := by simpa [ksOf] using e
      exact ⟨hu.1.blockLt hub k e', hu.2 hub k e'⟩
    · have e' : v.ownBlock = some k := by simpa [ksOf] using e
      exact hvo k e'
  have hw := ha.wider (ksOf u ++ ksOf v) (fun k hk => ⟨fun e => by have := h1 k e; rw [(hks k hk).2] at this; omega, (hks k hk).1⟩)
  refine (rseal_any _ w rr fr S hw (by have := hS.len; omega) k u bd ⟨hu.1, fun j hj => .inr (List.mem_append_left _ (List.mem_append_left _ (by simpa [ksOf] using hj)))⟩ v pl ⟨hv, fun j hj => .inr (List.mem_append_left _ (List.mem_append_right _ (by simpa [ksOf] using hj)))⟩ hlen).mono ?_
  rintro e w' ⟨v', rfl, hl⟩
  exact ⟨v', rfl, rorc_leftB ha h1 (fun k hk => by
    rcases List.mem_append.1 hk with e | e
    · exact (hks k e).2
    · exact h2 k e) h3 (fun k hk => (hks k hk).1) hl⟩
theorem bound_ne (x y n : Int) : boundL x y n ≠ [] := by
  unfold boundL
  intro e
  have := congrArg List.length e
  rw [List.length_append, List.length_append] at this
  have h1 := form_pos x.toNat
  rw [List.length_nil] at this
  omega
theorem orc_rseal10 {rr j rb : Nat} {r : Rg} (hO : ROrc w0 w o rr S) (hR : RRIs w o j rb r) (hS : Ora S N) (hN : N ≤ 80000) {x y n : Int} {v : Value} {pl : List Int} (hv : Rd w v pl) (hvo : ∀ k, v.ownBlock = some k → k < w.heap.size ∧ o k = 0) (hl : pl.length ≤ 1000000) :
    Calls Tryz.prog 10 #[ptr rr, ptr rb, .int .i64 x, .int .i64 y, .int .i64 n, v] w fun e w' => ∃ v', e = .returned (.tuple #[v', .int .i64 (sealM S (keyM r.ks n) x y n pl).1.2]) ∧ ∃ o', ROrc w0 w' o' rr (sealM S (keyM r.ks n) x y n pl).2 ∧ Kp0 w' o' v' (sealM S (keyM r.ks n) x y n pl).1.1 ∧ Mv [8] w o w' o' := by
  have hKy := keyRf hR n w (Below.refl _ _)
  generalize keyM r.ks n = kk at *
  unfold sealM
  cases hp : placeB x y n with
  | false =>
    rw [if_neg (by simp)]
    refine (rseal10_bad w hp _ _ _).mono ?_
    rintro e w' ⟨rfl, hw'⟩
    subst hw'
    exact ⟨_, rfl, o, hO, kp0_nil _ _, Mv.refl _ _ _⟩
  | true =>
    rw [if_pos rfl]
    by_cases h0 : kk.2 = 0
    · rw [if_pos h0]
      rw [h0] at hKy
      refine (rseal10_ok (Post := fun w1 v' k w' => k = (S.seal kk.1 (boundL x y n) pl).1.2 ∧ ∃ o', ROrc w0 w' o' rr (S.seal kk.1 (boundL x y n) pl).2 ∧ Kp0 w' o' v' (S.seal kk.1 (boundL x y n) pl).1.1 ∧ Mv [8] w1 (newTo o w 0) w' o') hp hKy (fun w' u hb hu => ?_)).mono ?_
      · refine (rorc_seal' (hO.below hb) hS hN kk.1 (Kp0.of_new (w1 := w) hu (Nat.le_refl _)) (bound_ne _ _ _) (hv.below hb) (fun k hk => ?_) hl).mono ?_
        · obtain ⟨h1, h2⟩ := hvo k hk
          exact ⟨Nat.lt_of_lt_of_le h1 hb.size, by rw [newTo_old h1]; exact h2⟩
        · rintro e w'' ⟨v', rfl, o', h1, h2, h3⟩
          exact ⟨v', _, rfl, rfl, o', h1, h2, h3⟩
      · rintro e w' ⟨v', k, w1, rfl, hb, rfl, o', h1, h2, h3⟩
        exact ⟨v', rfl, o', h1, h2, (Mv.of_below (I := [8]) 0 hb).trans h3⟩
    · rw [if_neg h0]
      refine (rseal10_no hp h0 hKy).mono ?_
      rintro e w' ⟨rfl, hw'⟩
      subst hw'
      exact ⟨_, rfl, o, hO, kp0_nil _ _, Mv.refl _ _ _⟩
theorem orc_ropen13 {rr j rb : Nat} {r : Rg} (hO : ROrc w0 w o rr S) (hR : RRIs w o j rb r) {e : Ent} {v : Value} (hv : Rd w v e.b) :
    Calls Tryz.prog 13 #[ptr rr, ptr rb, ev e v] w fun z w' => ∃ v', z = .returned (.tuple #[v', .int .i64 (openM S (keyM r.ks e.n) e).2]) ∧ Rd w' v' (openM S (keyM r.ks e.n) e).1 ∧ Below w.heap.size w w' := by
  have hKy := keyRf hR e.n
  generalize keyM r.ks e.n = kk at *
  unfold openM
  cases hr : eRight e with
  | false =>
    rw [if_neg (by simp)]
    refine (ropen13_bad hv hr _ _).mono ?_
    rintro z w' ⟨rfl, hb⟩
    exact ⟨_, rfl, rd_nil _, hb⟩
  | true =>
    rw [if_pos rfl]
    by_cases hn : e.n = -1
    · rw [if_pos hn]
      refine (ropen13_plain hv hr hn _ _).mono ?_
      rintro z w' ⟨rfl, hb⟩
      exact ⟨_, rfl, rd_nil _, hb⟩
    · rw [if_neg hn]
      by_cases h0 : kk.2 = 0
      · rw [if_pos h0]
        rw [h0] at hKy
        refine (ropen13_ok (Post := fun w1 v' k w' => k = (S.open kk.1 (boundL e.w e.i e.n) e.b).2 ∧ Rd w' v' (S.open kk.1 (boundL e.w e.i e.n) e.b).1 ∧ Below w1.heap.size w1 w') hv hr hn hKy (fun w' u hb hu => ?_)).mono ?_
        · refine (rorc_open (hO.below hb) kk.1 hu (hv.below hb)).mono ?_
          rintro z w'' ⟨v', rfl, h1, h2⟩
          exact ⟨v', _, rfl, h2, rfl, h1, h2⟩
        · rintro z w' ⟨v', k, w1, rfl, hb, rfl, h1, h2⟩
          exact ⟨v', rfl, h1, bnext hb h2⟩
      · rw [if_neg h0]
        refine (ropen13_no hv hr hn h0 hKy).mono ?_
        rintro z w' ⟨rfl, hb⟩
        exact ⟨_, rfl, rd_nil _, hb⟩
end
end Go.Proofs.YtjbpfhnagiacmaaGreat
