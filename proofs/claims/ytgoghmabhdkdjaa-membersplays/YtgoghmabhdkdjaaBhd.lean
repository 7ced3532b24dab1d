/-
  Behind: the state behind a log of changes, of the program and of the document's answer.
-/
import Derived.Test.YtgoghmabhdkdjaaRfB
import Derived.Test.YtgoghmabhdkdjaaLgt
namespace Go.Proofs.Ytgoghmabhdkdjaa
set_option linter.unusedVariables false
set_option linter.unusedSimpArgs false
set_option synthInstance.maxSize 20000
set_option maxHeartbeats 2000000
set_option maxRecDepth 20000
open Go.RowKit Go.Maps

theorem results_cell_tmp2 {fn : Func} {p u v : Tmp} {ty : TypeId} (h : fn.results = #[.cell p ty, .tmp u, .tmp v]) (tmps : Array Value) (P : Program) (w : World) :
    (results fn tmps).run P w = ((asAddr (tmps.getD p undef)).run P w).andThen fun a w₁ => ((loadVar ty a).run P w₁).andThen fun x w₂ => .ok (.tuple #[x, tmps.getD u undef, tmps.getD v undef]) w₂ := by
  simp only [results, h]
  simp [Sem.run_bind, Result.andThen]
/-- From a state on: the state behind the changes that are taken, how many are behind it, and why no more. -/
def behF : Sm → Nat → List Cg → Sm × Nat × Int
  | S, k, [] => (S, k, 0)
  | S, k, c :: r => if (applyM S c).2 = 0 then behF (applyM S c).1 (k + 1) r else (S, k, (applyM S c).2)
def s0 (p : Int) : Sm := ⟨[⟨0, p, 0, -1, 0⟩], -1⟩
def behM (p : Int) (l : List Cg) : Sm × Nat × Int := behF (s0 p) 0 l
theorem behF_ok : ∀ (l : List Cg) (S : Sm) (k : Nat), MOk S → FOk S → MOk (behF S k l).1 ∧ FOk (behF S k l).1 ∧ (behF S k l).1.l.length ≤ S.l.length + l.length
  | [], S, k, h1, h2 => ⟨h1, h2, Nat.le_refl _⟩
  | c :: r, S, k, h1, h2 => by
    unfold behF
    by_cases h : (applyM S c).2 = 0
    · rw [if_pos h]
      obtain ⟨a, b, d⟩ := behF_ok r (applyM S c).1 (k + 1) (apply_ok h1 h).1 (h2.apply h1 h)
      refine ⟨a, b, ?_⟩
      have := (apply_ok h1 h).2.1
      simp
      omega
    · rw [if_neg h]
      exact ⟨h1, h2, by simp⟩
theorem behM_ok (p : Int) (l : List Cg) : MOk (behM p l).1 ∧ FOk (behM p l).1 ∧ (behM p l).1.l.length ≤ l.length + 1 := by
  have := behF_ok l (s0 p) 0 (sok_new p) (fok_new p)
  refine ⟨this.1, this.2.1, ?_⟩
  have h := this.2.2
  unfold behM
  simp [s0] at h ⊢
  omega
theorem behF_step {S : Sm} {k : Nat} {l : List Cg} {c : Cg} (h : l[k]? = some c) : behF S k (l.drop k) = if (applyM S c).2 = 0 then behF (applyM S c).1 (k + 1) (l.drop (k + 1)) else (S, k, (applyM S c).2) := by
  have hk := List.getElem?_eq_some_iff.1 h
  rw [List.drop_eq_getElem_cons hk.1, hk.2]
  rfl
theorem behF_end {S : Sm} {k : Nat} {l : List Cg} (h : l.length ≤ k) : behF S k (l.drop k) = (S, k, 0) := by
  rw [List.drop_eq_nil_of_le h]
  rfl
theorem putS_var2 {w : World} {b c : Nat} {t t' : TypeId} {lv lv' v : Value} {S S' : Sm} {l : List Mb} {e : Int} (h : VarAt w b t lv S) (hc : VarAt w c t' lv' S') (hv : RowF mc w v l) (hne : c ≠ b) : VarAt (putS w b v e) c t' lv' S' := ⟨putS_other hc.blk hne, putS_row h hv hc.row⟩
set_option maxHeartbeats 16000000 in
theorem behind22 {w : World} {v : Value} {cs : List Cq} (p : Int) (h : ChsAt w v cs) (hlen : cs.length ≤ 800) : Calls Try.prog 22 #[v, .int .u64 p] w fun r w' => ∃ v', r = .returned (.tuple #[stv v' (behM p (cs.map (·.1))).1.e, .int .i64 ((behM p (cs.map (·.1))).2.1 : Nat), .int .i64 (behM p (cs.map (·.1))).2.2]) ∧ RowF mc w' v' (behM p (cs.map (·.1))).1.l ∧ Below w.heap.size w w' := by
  obtain ⟨la, lc, rfl⟩ := h.row.len
  have hc1 : cs.length ≤ lc := h.row.caps.2.1
  have hc2 : lc ≤ 9223372036854775807 := h.row.caps.2.2
  have HCs : Hid (ChsAt w (.slice la cs.length lc) cs) := h
  obtain ⟨n, hn⟩ : ∃ n, n = cs.length := ⟨_, rfl⟩
  have HN : Hid (n = cs.length) := hn
  obtain ⟨R, hR⟩ : ∃ R, R = behM p (cs.map (·.1)) := ⟨_, rfl⟩
  have HR : Hid (R = behF (s0 p) 0 ((cs.map (·.1)).drop 0)) := hR
  rw [← hn] at hc1 hlen HCs ⊢
  rw [← hR]
  obtain ⟨w0, hw0⟩ : ∃ w0, w0 = w.alloc (.cells #[.slice none 0 0, .int .i64 0] 28) := ⟨_, rfl⟩
  have HW0 : Hid (w0 = w.alloc (.cells #[.slice none 0 0, .int .i64 0] 28)) := hw0
  have hb0 : Below w.heap.size w w0 := by rw [hw0]; exact balloc (Below.refl _ _) _
  have HB0 : Hid (Below w.heap.size w w0) := hb0
  have HZ0 : Hid (VarAt w0 w.heap.size 28 (.slice none 0 0) ⟨[], 0⟩) := (by rw [hw0]; exact (show VarAt _ _ _ _ _ from var_new (S := ⟨[], 0⟩) 28 (rowF_nil w)))
  have HNew : Hid (Calls Try.prog 10 #[.int .u64 p] w0 fun r w' => ∃ a q, r = .returned (.agg #[.slice a 1 q, .int .i64 (-1)]) ∧ RowF mc w' (.slice a 1 q) [⟨0, p, 0, -1, 0⟩] ∧ Below w0.heap.size w0 w') := (show Calls _ _ _ _ _ from by
    refine (new10 p w0).mono ?_
    rintro r w' ⟨v, rfl, hr, hb⟩
    obtain ⟨a, q, rfl⟩ := hr.len
    exact ⟨a, q, rfl, hr, hb⟩)
  clear h hn hR hw0 hb0
  go_enter Try.func22, Try.ntmps22
  go_upto_region 1 with fail
  rw [← HW0.out]
  go_wp2_with (go_at_call 10; go_must (refine HNew.out.mono ?_; rintro r w1 ⟨a1, q1, rfl, hr1, hb1⟩))
  have HV2 : Hid (VarAt (w1.alloc (.cells #[.slice a1 1 q1, .int .i64 (-1)] 28)) w1.heap.size 28 (.slice a1 1 q1) (s0 p)) := var_new (S := s0 p) 28 hr1
  have hb02 : Below w0.heap.size w0 (w1.alloc (.cells #[.slice a1 1 q1, .int .i64 (-1)] 28)) := balloc hb1 _
  have HB2 : Hid (Below w.heap.size w (w1.alloc (.cells #[.slice a1 1 q1, .int .i64 (-1)] 28))) := (show Below _ _ _ from bnext HB0.out hb02)
  have HZ2 : Hid (VarAt (w1.alloc (.cells #[.slice a1 1 q1, .int .i64 (-1)] 28)) w.heap.size 28 (.slice none 0 0) ⟨[], 0⟩) := (show VarAt _ _ _ _ _ from HZ0.out.below hb02)
  obtain ⟨sb, hsb⟩ : ∃ sb, sb = w1.heap.size := ⟨_, rfl⟩
  have HSb : Hid (w.heap.size < sb) := (show _ < _ by
    rw [hsb]
    have h1 := hb1.size
    have h2 := HZ0.out.blk.lt
    omega)
  rw [← hsb] at HV2 ⊢
  generalize w1.alloc (.cells #[.slice a1 1 q1, .int .i64 (-1)] 28) = w2 at *
  clear hr1 hb1 hsb HNew hb02 HZ0 HB0 HW0
  go_loopw [16] (fun iv wr => ∃ (k : Nat) (S : Sm) (a : Option Addr) (q m : Nat), k ≤ n ∧ iv = .int .i64 k ∧ Hid (VarAt wr sb 28 (.slice a m q) S) ∧ Hid (VarAt wr w.heap.size 28 (.slice none 0 0) ⟨[], 0⟩) ∧ Hid (MOk S ∧ m = S.l.length ∧ m ≤ k + 1 ∧ R = behF S k ((cs.map (·.1)).drop k)) ∧ Hid (Below w.heap.size w wr)) (fun iv _ => n - (intOf iv).toNat)
  case atStart => exact ⟨0, s0 p, a1, q1, 1, Nat.zero_le _, rfl, HV2, HZ2, ⟨sok_new p, rfl, Nat.le_refl _, HR.out⟩, HB2⟩
  case round =>
    clear HB2 HV2 HZ2 HR
    obtain ⟨k, S, sa, sq, m, hk, rfl, HV4, HZ4, HI, HB4⟩ := hrel
    obtain ⟨w4, hw4⟩ : ∃ w4, w4 = wr := ⟨_, rfl⟩
    rw [← hw4] at HV4 HB4 HZ4 ⊢
    clear hw4
    have HFin : Hid (∀ w' v l e', Below w4.heap.size w4 w' → RowF mc w' v l → RowF mc (putS w' w.heap.size v e') v l ∧ Below w.heap.size w (putS w' w.heap.size v e')) := fun w' v l e' hb hv => ⟨putS_row (HZ4.out.below hb) hv hv, putS_below (bnext HB4.out hb) (Nat.le_refl _)⟩
    by_cases hki : k < n
    · obtain ⟨q, hq⟩ : ∃ q, cs[k]? = some q := ⟨_, List.getElem?_eq_getElem (by have := HN.out; omega)⟩
      have hq1 : (cs.map (·.1))[k]? = some q.1 := by rw [List.getElem?_map, hq]; rfl
      have HSt : Hid (behF S k ((cs.map (·.1)).drop k) = if (applyM S q.1).2 = 0 then behF (applyM S q.1).1 (k + 1) ((cs.map (·.1)).drop (k + 1)) else (S, k, (applyM S q.1).2)) := behF_step hq1
      obtain ⟨g, off, ea, hr⟩ := (HCs.out.row.below HB4.out).at cqf_len hq
      subst ea
      obtain ⟨qs, hcg⟩ := (HCs.out.below HB4.out).each q (List.mem_of_getElem? hq)
      obtain ⟨⟨ck, cw, cp, cm, cws, co⟩, va, vb⟩ := q
      obtain ⟨⟨xa, na, pa, hva⟩, xb, nb, pb, hvb⟩ := slices_of hcg
      dsimp only at hva hvb hcg
      subst hva hvb
      have HCg : Hid (CgAt w4 ⟨ck, cw, cp, cm, cws, co⟩ (.slice xa na pa) (.slice xb nb pb) qs) := hcg
      obtain ⟨L, E, K, hAe⟩ : ∃ L E K, applyM S ⟨ck, cw, cp, cm, cws, co⟩ = (⟨L, E⟩, K) := ⟨_, _, _, rfl⟩
      obtain ⟨m', hm'⟩ : ∃ m', m' = L.length := ⟨_, rfl⟩
      have HAe : Hid (applyM S ⟨ck, cw, cp, cm, cws, co⟩ = (⟨L, E⟩, K)) := hAe
      have HM' : Hid (m' = L.length) := hm'
      have HRs : Hid (R = if K = 0 then behF ⟨L, E⟩ (k + 1) ((cs.map (·.1)).drop (k + 1)) else (S, k, K)) := (show _ = _ by
        have h1 := HI.out.2.2.2
        rw [HSt.out] at h1
        dsimp only at h1
        rw [hAe] at h1
        exact h1)
      have HAp : Hid (∀ w', Below w4.heap.size w4 w' → Calls Try.prog 13 #[.agg #[.slice sa m sq, .int .i64 S.e], .agg #[.int .i64 ck, .int .i64 cw, .int .u64 cp, .int .i64 cm, .slice xa na pa, .slice xb nb pb]] w' fun r w'' => ∃ z y', r = .returned (.tuple #[.agg #[.slice z m' y', .int .i64 E], .int .i64 K]) ∧ RowF mc w'' (.slice z m' y') L ∧ Below w'.heap.size w' w'') := fun w' hb => by
        have h1 := apply13 (S := S) (HV4.out.row.below hb) (by have := HI.out.2; omega) HI.out.1.e (HCg.out.below hb)
        rw [HAe.out] at h1
        refine h1.mono ?_
        rintro r w'' ⟨v, rfl, hr, hb'⟩
        obtain ⟨z, y', e⟩ := hr.len
        subst e
        refine ⟨z, y', ?_, ?_, hb'⟩
        · rw [HM'.out]; rfl
        · rw [HM'.out]; exact hr
      clear hAe hm' HSt hq hq1 hcg
      have c0 := hr 0 _ rfl; have c1 := hr 1 _ rfl; have c2 := hr 2 _ rfl; have c3 := hr 3 _ rfl; have c4 := hr 4 _ rfl; have c5 := hr 5 _ rfl
      simp only [Nat.add_zero] at c0
      have HAl : Hid (∀ o, Below w4.heap.size w4 (w4.alloc o)) := fun o => balloc (Below.refl _ _) o
      have v0 := (HV4.out.below (HAl.out (.cells #[.int .i64 ck, .int .i64 cw, .int .u64 cp, .int .i64 cm, .slice xa na pa, .slice xb nb pb] 38))).blk.cell 0 _ rfl; have v1 := (HV4.out.below (HAl.out (.cells #[.int .i64 ck, .int .i64 cw, .int .u64 cp, .int .i64 cm, .slice xa na pa, .slice xb nb pb] 38))).blk.cell 1 _ rfl
      clear hr
      go_upto_region 6 with (go_at_call 13; go_must (refine (HAp.out _ (HAl.out _)).mono ?_; rintro r w5 ⟨tz, ty, rfl, hr5, hb5⟩))
      have hb45 : Below w4.heap.size w4 w5 := bnext (HAl.out _) hb5
      have HT6 : Hid (VarAt (w5.alloc (.cells #[.slice tz m' ty, .int .i64 E] 28)) w5.heap.size 28 (.slice tz m' ty) ⟨L, E⟩) := (show VarAt _ _ _ _ _ from var_new (S := ⟨L, E⟩) 28 hr5)
      have hb46 : Below w4.heap.size w4 (w5.alloc (.cells #[.slice tz m' ty, .int .i64 E] 28)) := balloc hb45 _
      obtain ⟨tb, htb⟩ : ∃ tb, tb = w5.heap.size := ⟨_, rfl⟩
      rw [← htb] at HT6 ⊢
      generalize w5.alloc (.cells #[.slice tz m' ty, .int .i64 E] 28) = w6 at *
      have HB46 : Hid (Below w4.heap.size w4 w6) := hb46
      clear c0 c1 c2 c3 c4 c5 v0 v1 hr5 hb5 hb45 hb46 htb HAp HCg
      have HZ6 : Hid (VarAt w6 w.heap.size 28 (.slice none 0 0) ⟨[], 0⟩) := (show VarAt _ _ _ _ _ from HZ4.out.below HB46.out)
      have HS6 : Hid (VarAt w6 sb 28 (.slice sa m sq) S) := (show VarAt _ _ _ _ _ from HV4.out.below HB46.out)
      have HB6 : Hid (Below w.heap.size w w6) := (show Below _ _ _ from bnext HB4.out HB46.out)
      have k0 := HT6.out.blk.cell 0 _ rfl; have k1 := HT6.out.blk.cell 1 _ rfl
      have r0 := HS6.out.blk.cell 0 _ rfl; have r1 := HS6.out.blk.cell 1 _ rfl; have p0 := HS6.out.blk.frozen 0; have p1 := HS6.out.blk.frozen 1
      have t0 := HZ6.out.blk.cell 0 _ rfl; have t1 := HZ6.out.blk.cell 1 _ rfl; have u0' := HZ6.out.blk.frozen 0; have u1' := HZ6.out.blk.frozen 1
      by_cases hK : K = 0
      · subst hK
        obtain ⟨hok, hl2, _, _, _⟩ := apply_ok HI.out.1 (show (applyM S ⟨ck, cw, cp, cm, cws, co⟩).2 = 0 by rw [HAe.out])
        rw [HAe.out] at hok hl2
        have HOk : Hid (MOk ⟨L, E⟩ ∧ m' = L.length ∧ m' ≤ k + 1 + 1 ∧ R = behF ⟨L, E⟩ (k + 1) ((cs.map (·.1)).drop (k + 1))) := (show _ ∧ _ ∧ _ ∧ _ from by
          dsimp only at hl2
          have h1 := HM'.out
          have h2 := HI.out.2
          refine ⟨hok, h1, by omega, ?_⟩
          rw [HRs.out, if_pos rfl])
        have HBz : Hid (Below w.heap.size w (putS w6 sb (.slice tz m' ty) E)) := (show Below _ _ _ from putS_below HB6.out (by have := HSb.out; omega))
        have HVz : Hid (VarAt (putS w6 sb (.slice tz m' ty) E) sb 28 (.slice tz m' ty) ⟨L, E⟩) := (show VarAt _ _ _ _ _ from putS_at HS6.out HT6.out.row)
        have HZz : Hid (VarAt (putS w6 sb (.slice tz m' ty) E) w.heap.size 28 (.slice none 0 0) ⟨[], 0⟩) := (show VarAt _ _ _ _ _ from putS_var2 HS6.out HZ6.out HT6.out.row (by have := HSb.out; omega))
        clear hok hl2 HAe HI
        go_wp2
        go_roundw
        case rel => exact ⟨k + 1, ⟨L, E⟩, tz, ty, m', by omega, by go_num, HVz, HZz, HOk, HBz⟩
        case measure => simp [intOf]; omega
      · have HRe : Hid (R = (S, k, K)) := (show _ = _ by rw [HRs.out, if_neg hK])
        go_wp2
        have hz := HFin.out w6 _ _ S.e HB46.out HS6.out.row
        refine bodyPost_ret (v := .tuple #[.agg #[.slice sa m sq, .int .i64 S.e], .int .i64 (k : Nat), .int .i64 K]) ?_ rfl ⟨.slice sa m sq, by rw [HRe.out]; rfl, by rw [HRe.out]; exact hz.1, hz.2⟩
        rw [results_cell_tmp2 rfl]
        go_simp
    · have HRe : Hid (R = (S, n, 0)) := (show _ = _ by
        have hkn : k = n := by omega
        rw [HI.out.2.2.2, behF_end (by rw [List.length_map]; have := HN.out; omega), hkn])
      have r0 := HV4.out.blk.cell 0 _ rfl; have r1 := HV4.out.blk.cell 1 _ rfl
      have t0 := HZ4.out.blk.cell 0 _ rfl; have t1 := HZ4.out.blk.cell 1 _ rfl; have u0' := HZ4.out.blk.frozen 0; have u1' := HZ4.out.blk.frozen 1
      go_wp2
      have hz := HFin.out w4 _ _ S.e (Below.refl _ _) HV4.out.row
      refine bodyPost_ret (v := .tuple #[.agg #[.slice sa m sq, .int .i64 S.e], .int .i64 (n : Nat), .int .i64 0]) ?_ rfl ⟨.slice sa m sq, by rw [HRe.out]; rfl, by rw [HRe.out]; exact hz.1, hz.2⟩
      rw [results_cell_tmp2 rfl]
      go_simp
set_option maxHeartbeats 16000000 in
theorem rbehind23 {w : World} {v : Value} {cs : List Cq} (p : Int) (h : ChsAt w v cs) (hlen : cs.length ≤ 800) : Calls Try.prog 23 #[v, .int .u64 p] w fun r w' => ∃ v', r = .returned (.tuple #[stv v' (behM p (cs.map (·.1))).1.e, .int .i64 ((behM p (cs.map (·.1))).2.1 : Nat), .int .i64 (behM p (cs.map (·.1))).2.2]) ∧ RowF mc w' v' (behM p (cs.map (·.1))).1.l ∧ Below w.heap.size w w' := by
  obtain ⟨la, lc, rfl⟩ := h.row.len
  have hc1 : cs.length ≤ lc := h.row.caps.2.1
  have hc2 : lc ≤ 9223372036854775807 := h.row.caps.2.2
  have HCs : Hid (ChsAt w (.slice la cs.length lc) cs) := h
  obtain ⟨n, hn⟩ : ∃ n, n = cs.length := ⟨_, rfl⟩
  have HN : Hid (n = cs.length) := hn
  obtain ⟨R, hR⟩ : ∃ R, R = behM p (cs.map (·.1)) := ⟨_, rfl⟩
  have HR : Hid (R = behF (s0 p) 0 ((cs.map (·.1)).drop 0)) := hR
  rw [← hn] at hc1 hlen HCs ⊢
  rw [← hR]
  obtain ⟨w0, hw0⟩ : ∃ w0, w0 = w.alloc (.cells #[.slice none 0 0, .int .i64 0] 32) := ⟨_, rfl⟩
  have HW0 : Hid (w0 = w.alloc (.cells #[.slice none 0 0, .int .i64 0] 32)) := hw0
  have hb0 : Below w.heap.size w w0 := by rw [hw0]; exact balloc (Below.refl _ _) _
  have HB0 : Hid (Below w.heap.size w w0) := hb0
  have HZ0 : Hid (VarAt w0 w.heap.size 32 (.slice none 0 0) ⟨[], 0⟩) := (by rw [hw0]; exact (show VarAt _ _ _ _ _ from var_new (S := ⟨[], 0⟩) 32 (rowF_nil w)))
  have HNew : Hid (Calls Try.prog 11 #[.int .u64 p] w0 fun r w' => ∃ a q, r = .returned (.agg #[.slice a 1 q, .int .i64 (-1)]) ∧ RowF mc w' (.slice a 1 q) [⟨0, p, 0, -1, 0⟩] ∧ Below w0.heap.size w0 w') := (show Calls _ _ _ _ _ from by
    refine (rnew11 p w0).mono ?_
    rintro r w' ⟨v, rfl, hr, hb⟩
    obtain ⟨a, q, rfl⟩ := hr.len
    exact ⟨a, q, rfl, hr, hb⟩)
  clear h hn hR hw0 hb0
  go_enter Try.func23, Try.ntmps23
  go_upto_region 1 with fail
  rw [← HW0.out]
  go_wp2_with (go_at_call 11; go_must (refine HNew.out.mono ?_; rintro r w1 ⟨a1, q1, rfl, hr1, hb1⟩))
  have HV2 : Hid (VarAt (w1.alloc (.cells #[.slice a1 1 q1, .int .i64 (-1)] 32)) w1.heap.size 32 (.slice a1 1 q1) (s0 p)) := var_new (S := s0 p) 32 hr1
  have hb02 : Below w0.heap.size w0 (w1.alloc (.cells #[.slice a1 1 q1, .int .i64 (-1)] 32)) := balloc hb1 _
  have HB2 : Hid (Below w.heap.size w (w1.alloc (.cells #[.slice a1 1 q1, .int .i64 (-1)] 32))) := (show Below _ _ _ from bnext HB0.out hb02)
  have HZ2 : Hid (VarAt (w1.alloc (.cells #[.slice a1 1 q1, .int .i64 (-1)] 32)) w.heap.size 32 (.slice none 0 0) ⟨[], 0⟩) := (show VarAt _ _ _ _ _ from HZ0.out.below hb02)
  obtain ⟨sb, hsb⟩ : ∃ sb, sb = w1.heap.size := ⟨_, rfl⟩
  have HSb : Hid (w.heap.size < sb) := (show _ < _ by
    rw [hsb]
    have h1 := hb1.size
    have h2 := HZ0.out.blk.lt
    omega)
  rw [← hsb] at HV2 ⊢
  generalize w1.alloc (.cells #[.slice a1 1 q1, .int .i64 (-1)] 32) = w2 at *
  clear hr1 hb1 hsb HNew hb02 HZ0 HB0 HW0
  go_loopw [8] (fun iv wr => ∃ (k : Nat) (S : Sm) (a : Option Addr) (q m : Nat), k ≤ n ∧ iv = .int .i64 k ∧ Hid (VarAt wr sb 32 (.slice a m q) S) ∧ Hid (VarAt wr w.heap.size 32 (.slice none 0 0) ⟨[], 0⟩) ∧ Hid (MOk S ∧ m = S.l.length ∧ m ≤ k + 1 ∧ R = behF S k ((cs.map (·.1)).drop k)) ∧ Hid (Below w.heap.size w wr)) (fun iv _ => n - (intOf iv).toNat)
  case atStart => exact ⟨0, s0 p, a1, q1, 1, Nat.zero_le _, rfl, HV2, HZ2, ⟨sok_new p, rfl, Nat.le_refl _, HR.out⟩, HB2⟩
  case round =>
    clear HB2 HV2 HZ2 HR
    obtain ⟨k, S, sa, sq, m, hk, rfl, HV4, HZ4, HI, HB4⟩ := hrel
    obtain ⟨w4, hw4⟩ : ∃ w4, w4 = wr := ⟨_, rfl⟩
    rw [← hw4] at HV4 HB4 HZ4 ⊢
    clear hw4
    have HFin : Hid (∀ w' v l e', Below w4.heap.size w4 w' → RowF mc w' v l → RowF mc (putS w' w.heap.size v e') v l ∧ Below w.heap.size w (putS w' w.heap.size v e')) := fun w' v l e' hb hv => ⟨putS_row (HZ4.out.below hb) hv hv, putS_below (bnext HB4.out hb) (Nat.le_refl _)⟩
    by_cases hki : k < n
    · obtain ⟨q, hq⟩ : ∃ q, cs[k]? = some q := ⟨_, List.getElem?_eq_getElem (by have := HN.out; omega)⟩
      have hq1 : (cs.map (·.1))[k]? = some q.1 := by rw [List.getElem?_map, hq]; rfl
      have HSt : Hid (behF S k ((cs.map (·.1)).drop k) = if (applyM S q.1).2 = 0 then behF (applyM S q.1).1 (k + 1) ((cs.map (·.1)).drop (k + 1)) else (S, k, (applyM S q.1).2)) := behF_step hq1
      obtain ⟨g, off, ea, hr⟩ := (HCs.out.row.below HB4.out).at cqf_len hq
      subst ea
      obtain ⟨qs, hcg⟩ := (HCs.out.below HB4.out).each q (List.mem_of_getElem? hq)
      obtain ⟨⟨ck, cw, cp, cm, cws, co⟩, va, vb⟩ := q
      obtain ⟨⟨xa, na, pa, hva⟩, xb, nb, pb, hvb⟩ := slices_of hcg
      dsimp only at hva hvb hcg
      subst hva hvb
      have HCg : Hid (CgAt w4 ⟨ck, cw, cp, cm, cws, co⟩ (.slice xa na pa) (.slice xb nb pb) qs) := hcg
      obtain ⟨L, E, K, hAe⟩ : ∃ L E K, applyM S ⟨ck, cw, cp, cm, cws, co⟩ = (⟨L, E⟩, K) := ⟨_, _, _, rfl⟩
      obtain ⟨m', hm'⟩ : ∃ m', m' = L.length := ⟨_, rfl⟩
      have HAe : Hid (applyM S ⟨ck, cw, cp, cm, cws, co⟩ = (⟨L, E⟩, K)) := hAe
      have HM' : Hid (m' = L.length) := hm'
      have HRs : Hid (R = if K = 0 then behF ⟨L, E⟩ (k + 1) ((cs.map (·.1)).drop (k + 1)) else (S, k, K)) := (show _ = _ by
        have h1 := HI.out.2.2.2
        rw [HSt.out] at h1
        dsimp only at h1
        rw [hAe] at h1
        exact h1)
      have HAp : Hid (∀ w', Below w4.heap.size w4 w' → Calls Try.prog 14 #[.agg #[.slice sa m sq, .int .i64 S.e], .agg #[.int .i64 ck, .int .i64 cw, .int .u64 cp, .int .i64 cm, .slice xa na pa, .slice xb nb pb]] w' fun r w'' => ∃ z y', r = .returned (.tuple #[.agg #[.slice z m' y', .int .i64 E], .int .i64 K]) ∧ RowF mc w'' (.slice z m' y') L ∧ Below w'.heap.size w' w'') := fun w' hb => by
        have h1 := rapply14 (S := S) (HV4.out.row.below hb) (by have := HI.out.2; omega) HI.out.1 (HCg.out.below hb)
        rw [HAe.out] at h1
        refine h1.mono ?_
        rintro r w'' ⟨v, rfl, hr, hb'⟩
        obtain ⟨z, y', e⟩ := hr.len
        subst e
        refine ⟨z, y', ?_, ?_, hb'⟩
        · rw [HM'.out]; rfl
        · rw [HM'.out]; exact hr
      clear hAe hm' HSt hq hq1 hcg
      have hcl : ∀ (z : WIn (fun w' => Below w4.heap.size w4 w')) p v, w4.cell? p = some v → z.w.cell? p = some v := fun z p v hp => (z.ok.cell (World.block_lt_of_cell? w4 _ hp)).trans hp
      have v0 := fun z => hcl z _ _ (HV4.out.blk.cell 0 _ rfl); have v1 := fun z => hcl z _ _ (HV4.out.blk.cell 1 _ rfl)
      have e0 := fun z => hcl z _ _ (hr 0 _ rfl); have e1 := fun z => hcl z _ _ (hr 1 _ rfl); have e2 := fun z => hcl z _ _ (hr 2 _ rfl); have e3 := fun z => hcl z _ _ (hr 3 _ rfl); have e4 := fun z => hcl z _ _ (hr 4 _ rfl); have e5 := fun z => hcl z _ _ (hr 5 _ rfl)
      simp only [Nat.add_zero] at e0
      have HD4 : Hid (Below w4.heap.size w4 w4.drew) := (show Below _ _ _ from (Below.refl _ _).drew)
      have ne : Nonempty (WIn (fun w' => Below w4.heap.size w4 w')) := ⟨⟨w4, Below.refl _ _⟩⟩
      clear hr hcl
      go_upto_region 5 with fail
      go_cut [9, 10] (fun tv kv wx => ∃ (tb : Nat) (z : Option Addr) (y : Nat), tv = ptr tb ∧ kv = .int .i64 K ∧ Hid (VarAt wx tb 32 (.slice z m' y) ⟨L, E⟩ ∧ Below w4.heap.size w4 wx))
      case first =>
        refine wp_region_tree (C := fun w' => ∃ z : WIn (fun w' => Below w4.heap.size w4 w'), w' = z.w) (.still 0 (.still 1 (.still 2 (.still 3 (.still 4 (.two 5 (.still 6 (.still 7 (.still 8 (.one 9 (.one 10 (.still 11 .done)))))) 9 (.one 5 (.still 6 (.still 7 (.still 8 (.one 10 (.still 11 .done)))))))))))) (by kernel_rfl) (by kernel_rfl) ⟨⟨w4.drew, HD4.out⟩, rfl⟩ ?_
        iterate 5 (refine tree_still rfl rfl ?_; go_big_quiet_step (fail); refine wpQuiet_nil ?_)
        refine tree_two rfl rfl rfl rfl ?_ ?_
        · go_simp
          refine (HAp.out w4.drew HD4.out).mono ?_
          rintro r w6 ⟨z6, y6, rfl, hr6, hb6⟩
          have HR6 : Hid (RowF mc w6 (.slice z6 m' y6) L) := hr6
          have HD6 : Hid (Below w4.heap.size w4 w6) := (show Below _ _ _ from bnext (w := w4.drew) HD4.out hb6)
          clear hr6 hb6
          refine ⟨⟨⟨_, HD6.out⟩, rfl⟩, ?_⟩
          go_simp
          iterate 3 (refine tree_still rfl rfl ?_; go_big_quiet_step (fail); refine wpQuiet_nil ?_)
          refine tree_one rfl rfl ?_
          go_simp
          have HP : Hid (VarAt (w6.alloc (.cells #[.slice z6 m' y6, .int .i64 E] 32)) w6.heap.size 32 (.slice z6 m' y6) ⟨L, E⟩ ∧ Below w4.heap.size w4 (w6.alloc (.cells #[.slice z6 m' y6, .int .i64 E] 32))) := ⟨var_new (S := ⟨L, E⟩) 32 HR6.out, balloc HD6.out _⟩
          have HZ : Hid (Below w4.heap.size w4 (w6.alloc (.cells #[.slice none 0 0, .int .i64 0] 32))) := (show Below _ _ _ from balloc HD6.out _)
          refine ⟨⟨⟨_, HZ.out⟩, rfl⟩, ?_⟩
          go_simp
          refine tree_one rfl rfl ?_
          go_simp
          refine ⟨⟨⟨_, HP.out.2⟩, rfl⟩, ?_⟩
          go_simp
          refine tree_still rfl rfl ?_; go_big_quiet_step (fail); refine wpQuiet_nil ?_
          refine tree_done ?_
          go_wp2
          go_meet
          exact ⟨_, _, _, rfl, rfl, HP⟩
        · go_simp
          have HV7 : Hid (VarAt (w4.alloc (.cells #[.slice none 0 0, .int .i64 0] 32)).drew w4.heap.size 32 (.slice none 0 0) ⟨[], 0⟩) := (show VarAt _ _ _ _ _ from var_new (S := ⟨[], 0⟩) 32 (rowF_nil w4.drew))
          have HD7 : Hid (Below w4.heap.size w4 (w4.alloc (.cells #[.slice none 0 0, .int .i64 0] 32)).drew) := (show Below _ _ _ from (balloc (Below.refl _ _) _).drew)
          generalize (w4.alloc (.cells #[.slice none 0 0, .int .i64 0] 32)).drew = w7 at *
          refine ⟨⟨⟨_, HD7.out⟩, rfl⟩, ?_⟩
          go_simp
          refine tree_one rfl rfl ?_
          go_simp
          refine (HAp.out w7 HD7.out).mono ?_
          rintro r w6 ⟨z6, y6, rfl, hr6, hb6⟩
          have HR6 : Hid (RowF mc w6 (.slice z6 m' y6) L) := hr6
          have HD6 : Hid (Below w4.heap.size w4 w6) := (show Below _ _ _ from bnext (w := w7) HD7.out hb6)
          have HV8 : Hid (VarAt w6 w4.heap.size 32 (.slice none 0 0) ⟨[], 0⟩) := (show VarAt _ _ _ _ _ from HV7.out.below hb6)
          clear hr6 hb6
          refine ⟨⟨⟨_, HD6.out⟩, rfl⟩, ?_⟩
          go_simp
          iterate 3 (refine tree_still rfl rfl ?_; go_big_quiet_step (fail); refine wpQuiet_nil ?_)
          have HP : Hid (VarAt (putS w6 w4.heap.size (.slice z6 m' y6) E) w4.heap.size 32 (.slice z6 m' y6) ⟨L, E⟩ ∧ Below w4.heap.size w4 (putS w6 w4.heap.size (.slice z6 m' y6) E)) := ⟨putS_at HV8.out HR6.out, putS_below HD6.out (Nat.le_refl _)⟩
          have g0 := HV8.out.blk.cell 0 _ rfl; have g1 := HV8.out.blk.cell 1 _ rfl; have i0 := HV8.out.blk.frozen 0; have i1 := HV8.out.blk.frozen 1
          refine tree_one rfl rfl ?_
          go_simp
          refine ⟨⟨⟨_, HP.out.2⟩, rfl⟩, ?_⟩
          go_simp
          refine tree_still rfl rfl ?_; go_big_quiet_step (fail); refine wpQuiet_nil ?_
          refine tree_done ?_
          go_wp2
          go_meet
          exact ⟨_, _, _, rfl, rfl, HP⟩
      case rest =>
        obtain ⟨tb, tz, ty, htv, hkv, HP⟩ := hcut
        rename World => w6
        subst htv
        subst hkv
        have HT6 : Hid (VarAt w6 tb 32 (.slice tz m' ty) ⟨L, E⟩) := HP.out.1
        have HB46 : Hid (Below w4.heap.size w4 w6) := HP.out.2
        clear HP v0 v1 e0 e1 e2 e3 e4 e5 ne HAp HCg HD4
        have HZ6 : Hid (VarAt w6 w.heap.size 32 (.slice none 0 0) ⟨[], 0⟩) := (show VarAt _ _ _ _ _ from HZ4.out.below HB46.out)
        have HS6 : Hid (VarAt w6 sb 32 (.slice sa m sq) S) := (show VarAt _ _ _ _ _ from HV4.out.below HB46.out)
        have HB6 : Hid (Below w.heap.size w w6) := (show Below _ _ _ from bnext HB4.out HB46.out)
        have k0 := HT6.out.blk.cell 0 _ rfl; have k1 := HT6.out.blk.cell 1 _ rfl
        have r0 := HS6.out.blk.cell 0 _ rfl; have r1 := HS6.out.blk.cell 1 _ rfl; have p0 := HS6.out.blk.frozen 0; have p1 := HS6.out.blk.frozen 1
        have t0 := HZ6.out.blk.cell 0 _ rfl; have t1 := HZ6.out.blk.cell 1 _ rfl; have u0' := HZ6.out.blk.frozen 0; have u1' := HZ6.out.blk.frozen 1
        by_cases hK : K = 0
        · subst hK
          obtain ⟨hok, hl2, _, _, _⟩ := apply_ok HI.out.1 (show (applyM S ⟨ck, cw, cp, cm, cws, co⟩).2 = 0 by rw [HAe.out])
          rw [HAe.out] at hok hl2
          have HOk : Hid (MOk ⟨L, E⟩ ∧ m' = L.length ∧ m' ≤ k + 1 + 1 ∧ R = behF ⟨L, E⟩ (k + 1) ((cs.map (·.1)).drop (k + 1))) := (show _ ∧ _ ∧ _ ∧ _ from by
            dsimp only at hl2
            have h1 := HM'.out
            have h2 := HI.out.2
            refine ⟨hok, h1, by omega, ?_⟩
            rw [HRs.out, if_pos rfl])
          have HBz : Hid (Below w.heap.size w (putS w6 sb (.slice tz m' ty) E)) := (show Below _ _ _ from putS_below HB6.out (by have := HSb.out; omega))
          have HVz : Hid (VarAt (putS w6 sb (.slice tz m' ty) E) sb 32 (.slice tz m' ty) ⟨L, E⟩) := (show VarAt _ _ _ _ _ from putS_at HS6.out HT6.out.row)
          have HZz : Hid (VarAt (putS w6 sb (.slice tz m' ty) E) w.heap.size 32 (.slice none 0 0) ⟨[], 0⟩) := (show VarAt _ _ _ _ _ from putS_var2 HS6.out HZ6.out HT6.out.row (by have := HSb.out; omega))
          clear hok hl2 HAe HI
          go_wp2
          go_roundw
          case rel => exact ⟨k + 1, ⟨L, E⟩, tz, ty, m', by omega, by go_num, HVz, HZz, HOk, HBz⟩
          case measure => simp [intOf]; omega
        · have HRe : Hid (R = (S, k, K)) := (show _ = _ by rw [HRs.out, if_neg hK])
          go_wp2
          have hz := HFin.out w6 _ _ S.e HB46.out HS6.out.row
          refine bodyPost_ret (v := .tuple #[.agg #[.slice sa m sq, .int .i64 S.e], .int .i64 (k : Nat), .int .i64 K]) ?_ rfl ⟨.slice sa m sq, by rw [HRe.out]; rfl, by rw [HRe.out]; exact hz.1, hz.2⟩
          rw [results_cell_tmp2 rfl]
          go_simp
    · have HRe : Hid (R = (S, n, 0)) := (show _ = _ by
        have hkn : k = n := by omega
        rw [HI.out.2.2.2, behF_end (by rw [List.length_map]; have := HN.out; omega), hkn])
      have r0 := HV4.out.blk.cell 0 _ rfl; have r1 := HV4.out.blk.cell 1 _ rfl
      have t0 := HZ4.out.blk.cell 0 _ rfl; have t1 := HZ4.out.blk.cell 1 _ rfl; have u0' := HZ4.out.blk.frozen 0; have u1' := HZ4.out.blk.frozen 1
      go_wp2
      have hz := HFin.out w4 _ _ S.e (Below.refl _ _) HV4.out.row
      refine bodyPost_ret (v := .tuple #[.agg #[.slice sa m sq, .int .i64 S.e], .int .i64 (n : Nat), .int .i64 0]) ?_ rfl ⟨.slice sa m sq, by rw [HRe.out]; rfl, by rw [HRe.out]; exact hz.1, hz.2⟩
      rw [results_cell_tmp2 rfl]
      go_simp
end Go.Proofs.Ytgoghmabhdkdjaa
