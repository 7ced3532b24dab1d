/-
  The reference's Whole, where the sums of all that is accepted are known.
-/
import Derived.Test.YteedjdflojfhmaaRAcc
namespace Go.Proofs.Yteedjdflojfhmaa
set_option linter.unusedVariables false
set_option linter.unusedSimpArgs false
set_option synthInstance.maxSize 20000
set_option maxHeartbeats 2000000
set_option maxRecDepth 20000
open Go.RowKit Go.Maps

theorem rwhole_nil (w : World) (r : Value) (p : Int) (a : Option Addr) (cap : Nat) : Calls Try.prog 28 #[r, .int .u64 p, .slice a 0 cap] w fun q w' => q = .returned (.tuple #[.int .i64 0, .int .i64 0]) ∧ w' = w := by
  go_enter Try.func28, Try.ntmps28
  go_wp2
  go_ret2
  exact ⟨rfl, rfl⟩

theorem rwhole_any {w0 w : World} {o : Nat → Nat} {r : Nat} {T : St} {p : Int} (hO : ROrc w0 w o r T) (hF : Fine T) (hp : U64 p) {v : Value} {ps : List (Ent × Value)} {q0 : Ent × Value} (h0 : ps[0]? = some q0) (hv : RowE w v ps) (hE : Ents w o ps) (hrow : ∀ k, v.ownBlock = some k → o k ≠ 8) (hfew : ps.length ≤ 150) (hN : T.rows.length + 1 ≤ 100000)
    (N : Nat) (hNl : N ≤ ps.length) (σ : Nat → Int) (hh : ∀ i, i ≤ N → i < ps.length → headM T ((ps.map (·.1)).take i) = (σ i, T)) (hgo : ∀ i, i < N → ∀ e, (ps.map (·.1))[i]? = some e → checkM T q0.1.w p ⟨(ps.map (·.1)).take i, σ i⟩ e = 0)
    (K : Int) (hstop : N < ps.length → K ≠ 0 ∧ ∀ e, (ps.map (·.1))[N]? = some e → checkM T q0.1.w p ⟨(ps.map (·.1)).take N, σ N⟩ e = K) (hall : N = ps.length → K = 0) :
    Calls Try.prog 28 #[ptr r, .int .u64 p, v] w fun q w' => q = .returned (.tuple #[.int .i64 (N : Int), .int .i64 K]) ∧ ∃ o', ROrc w0 w' o' r T ∧ Mv [8] w o w' o' := by
  obtain ⟨c, hc1, hc8, hcw⟩ := fresh_owner w o 8
  have hne : ps ≠ [] := fun e => by subst e; simp at h0
  have hblt := hv.blockLt hne
  obtain ⟨a, cap, rfl⟩ := hv.len
  obtain ⟨g, off, rfl, hcell0⟩ := hv.at h0
  have hcap := hv.cap
  have hwc := hcell0 0 _ rfl
  simp only [Nat.add_zero, Nat.zero_mul] at hwc
  have hpos : (0 : Int) < ps.length := by have := (List.getElem?_eq_some_iff.1 h0).1; omega
  have hgo' : o g ≠ 8 ∧ o g ≠ c ∧ g < w.heap.size := ⟨hrow g rfl, hcw g (hblt g rfl), hblt g rfl⟩
  have hI : I64 q0.1.w := (hE q0 (List.mem_of_getElem? h0)).1.1
  obtain ⟨ew, hew⟩ : ∃ ew, q0.1.w = ew := ⟨_, rfl⟩
  rw [hew] at hwc hI
  simp only [hew] at hgo hstop
  have hp2 : ((ps.length : Int) == 0) = false := by simp; omega
  have HV : Hid (RowE w (.slice (some ⟨g, off, none⟩) ps.length cap) ps) := hv
  have HE : Hid (Ents w o ps) := hE
  have HO0 : Hid (ROrc w0 w o r T) := hO
  have HCW : Hid (∀ k, k < w.heap.size → o k ≠ c) := hcw
  have HGo : Hid (o g ≠ 8 ∧ o g ≠ c ∧ g < w.heap.size) := hgo'
  have HFw : Hid (ps.length ≤ 150) := hfew
  have HAsk : Hid (∀ (i : Nat) (q : Ent × Value) (wa : World) (oa : Nat → Nat) (la : Nat), i ≤ N → ps[i]? = some q → RLogIs wa oa c la ew p ((ps.map (·.1)).take i) → ROrc w0 wa oa r T → Rd wa q.2 q.1.b → RAsk w0 wa oa c la r T ew p ((ps.map (·.1)).take i) (σ i) q.1 q.2) := fun i q wa oa la hi hq h1 h2 h3 => by
    have hlt := (List.getElem?_eq_some_iff.1 hq).1
    refine ⟨h1, h2, hF, (hE q (List.mem_of_getElem? hq)).1, h3, hh i hi hlt, fun f hf => ?_, by omega, hN⟩
    rw [List.getLast?_take] at hf
    split at hf
    · cases hf
    · rename_i hi0
      have hlt' : i - 1 < (ps.map (·.1)).length := by simp; omega
      rw [List.getElem?_eq_getElem hlt'] at hf
      simp at hf
      have hz := (check_zero _ _ _ _ _).1 (hgo (i - 1) (by omega) f (by rw [List.getElem?_eq_getElem hlt']; simpa using hf))
      exact (rightB_iff f).2 hz.1
  have HGo0 : Hid (∀ i, i < N → ∀ q, ps[i]? = some q → checkM T ew p ⟨(ps.map (·.1)).take i, σ i⟩ q.1 = 0) := fun i hi q hq => hgo i hi q.1 (by rw [List.getElem?_map, hq]; rfl)
  have HStop : Hid (N < ps.length → K ≠ 0 ∧ ∀ q, ps[N]? = some q → checkM T ew p ⟨(ps.map (·.1)).take N, σ N⟩ q.1 = K) := fun h => ⟨(hstop h).1, fun q hq => (hstop h).2 q.1 (by rw [List.getElem?_map, hq]; rfl)⟩
  have HAll : Hid (N = ps.length → K = 0) := hall
  have HL0 : Hid (RLogIs (w.alloc (.cells #[.int .i64 ew, .int .u64 p, .slice none 0 0] 42)) (newTo o w c) c w.heap.size ew p []) := rlog_new c ew p hI hp
  clear hv hE hO hcw hgo' hrow hcell0 h0 hblt hgo hstop hall hh hF
  go_enter Try.func28, Try.ntmps28
  go_wp2
  have HB1 : Hid (Below w.heap.size w (w.alloc (.cells #[.int .i64 ew, .int .u64 p, .slice none 0 0] 42))) := balloc (Below.refl _ _) _
  obtain ⟨la, hla⟩ : ∃ la, la = w.heap.size := ⟨_, rfl⟩
  rw [← hla] at HL0 ⊢
  clear hla
  generalize w.alloc (.cells #[.int .i64 ew, .int .u64 p, .slice none 0 0] 42) = w1 at *
  have HM1 : Hid (Mv [8, c] w o w1 (newTo o w c)) := (show Mv _ _ _ _ _ from Mv.of_below c HB1.out)
  have HO1 : Hid (ROrc w0 w1 (newTo o w c) r T) := HO0.out.mv (Mv.of_below (I := []) c HB1.out) (by simp) (by simp)
  clear hwc
  go_loopw [9] (fun i wr => ∃ (k : Nat) (o' : Nat → Nat), i = .int .i64 k ∧ k ≤ N ∧ Hid (ROrc w0 wr o' r T) ∧ Hid (RLogIs wr o' c la ew p ((ps.map (·.1)).take k)) ∧ Hid (Mv [8, c] w o wr o')) (fun i _ => ps.length - (intOf i).toNat)
  case atStart => exact ⟨0, newTo o w c, rfl, by omega, HO1, (show RLogIs _ _ _ _ _ _ _ from by rw [List.take_zero]; exact HL0.out), HM1⟩
  case round =>
    obtain ⟨k, o', rfl, hk, HO, HL, HM⟩ := hrel
    by_cases hk8 : k < ps.length
    · obtain ⟨q, hq⟩ : ∃ q, ps[k]? = some q := ⟨_, List.getElem?_eq_getElem hk8⟩
      have hrow' : RowE wr (.slice (some ⟨g, off, none⟩) ps.length cap) ps := HV.out.mv HM.out (fun k' hk' => by
        simp [Value.ownBlock] at hk'
        subst hk'
        have := HGo.out
        simp
        exact ⟨this.1, this.2.1⟩)
      obtain ⟨g', off', ea, hc⟩ := hrow'.at hq
      cases ea
      have hmem := List.mem_of_getElem? hq
      have hEq' := (HE.out.mv HM.out (by simp; omega)) q hmem
      have hask := HAsk.out k q wr o' la hk hq HL.out HO.out hEq'.2.1
      have hKp := hEq'.2
      by_cases hkN : k < N
      · have AC := raccept_ok hask hKp (by omega) (HGo0.out k hkN q hq)
        have htake : (ps.map (·.1)).take k ++ [q.1] = (ps.map (·.1)).take (k + 1) := by
          rw [List.take_add_one, List.getElem?_map, hq]
          rfl
        rw [htake] at AC
        clear htake
        obtain ⟨es', hes'⟩ : ∃ es', es' = (ps.map (·.1)).take (k + 1) := ⟨_, rfl⟩
        rw [← hes'] at AC
        have HEs : Hid (es' = (ps.map (·.1)).take (k + 1)) := hes'
        clear hes'
        obtain ⟨e, x⟩ := q
        dsimp only at *
        obtain ⟨ax, cx, hxx⟩ := hEq'.2.1.len
        subst hxx
        obtain ⟨ew', ei, ep, et, eu, en, eb, eg⟩ := e
        unfold ev at AC
        unfold ec at hc
        dsimp only at *
        have HAC : Hid (Calls Try.prog 26 #[ptr la, ptr r, .agg #[.int .i64 ew', .int .i64 ei, .int .u64 ep, .int .i64 et, .int .i64 eu, .int .i64 en, .slice ax eb.length cx, .int .u64 eg]] wr fun q w' => q = .returned (.int .i64 0) ∧ ∃ o'', ROrc w0 w' o'' r T ∧ RLogIs w' o'' c la ew p es' ∧ Mv [8, c] wr o' w' o'') := AC
        have d0 := hc 0 _ rfl
        have d1 := hc 1 _ rfl
        have d2 := hc 2 _ rfl
        have d3 := hc 3 _ rfl
        have d4 := hc 4 _ rfl
        have d5 := hc 5 _ rfl
        have d6 := hc 6 _ rfl
        have d7 := hc 7 _ rfl
        simp only [Nat.add_zero] at d0
        clear hc AC hrow' hEq' hmem hq hask hKp
        go_wp2_with (go_at_call 26; go_must (refine (Calls.mono HAC.out ?_); rintro q w3 ⟨rfl, h3⟩))
        go_roundw
        case rel =>
          obtain ⟨o3, h1, h2, h3⟩ := h3
          exact ⟨k + 1, o3, by go_num, by omega, h1, (show RLogIs _ _ _ _ _ _ _ from by rw [← HEs.out]; exact h2), HM.out.trans h3⟩
        case measure => simp [intOf]; omega
      · obtain rfl : k = N := by omega
        have hst := HStop.out hk8
        have hck := hst.2 q hq
        have AC := raccept_bad hask (by rw [hck]; exact hst.1)
        rw [hck] at AC
        have hK1 : (K != 0) = true := by simpa using hst.1
        obtain ⟨e, x⟩ := q
        dsimp only at *
        obtain ⟨ax, cx, hxx⟩ := hEq'.2.1.len
        subst hxx
        obtain ⟨ew', ei, ep, et, eu, en, eb, eg⟩ := e
        unfold ev at AC
        unfold ec at hc
        dsimp only at *
        have HAC : Hid (Calls Try.prog 26 #[ptr la, ptr r, .agg #[.int .i64 ew', .int .i64 ei, .int .u64 ep, .int .i64 et, .int .i64 eu, .int .i64 en, .slice ax eb.length cx, .int .u64 eg]] wr fun q w' => q = .returned (.int .i64 K) ∧ ∃ o'', ROrc w0 w' o'' r T ∧ Mv [8] wr o' w' o'') := AC
        have d0 := hc 0 _ rfl
        have d1 := hc 1 _ rfl
        have d2 := hc 2 _ rfl
        have d3 := hc 3 _ rfl
        have d4 := hc 4 _ rfl
        have d5 := hc 5 _ rfl
        have d6 := hc 6 _ rfl
        have d7 := hc 7 _ rfl
        simp only [Nat.add_zero] at d0
        clear hc AC hrow' hEq' hmem hq hask hKp hck hst
        go_wp2_with (go_at_call 26; go_must (refine (Calls.mono HAC.out ?_); rintro q w3 ⟨rfl, h3⟩))
        go_ret2
        obtain ⟨o3, h1, h3⟩ := h3
        exact ⟨rfl, o3, h1, Mv.restrict ((HM.out.trans (h3.widen (by simp))).widen (by simp)) HCW.out⟩
    · obtain rfl : k = ps.length := by omega
      have hNe : N = ps.length := by omega
      have HK0 : Hid (K = 0 ∧ N = ps.length) := ⟨HAll.out hNe, hNe⟩
      clear hNe
      go_wp2
      go_ret2
      rw [HK0.out.1, HK0.out.2]
      exact ⟨rfl, o', HO.out, Mv.restrict (HM.out.widen (by simp)) HCW.out⟩
end Go.Proofs.Yteedjdflojfhmaa
