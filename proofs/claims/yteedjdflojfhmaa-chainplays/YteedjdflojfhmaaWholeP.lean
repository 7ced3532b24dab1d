/-
  Whole: how many entries of a list a new log would accept.
  Logs by plain lists: what issuing and accepting leave; one head, one log; an entry that is signed anew for a place.
-/
import Derived.Test.YteedjdflojfhmaaAllE
import Derived.Test.YteedjdflojfhmaaGrow
import Derived.Test.YteedjdflojfhmaaLogM
namespace Go.Proofs.Yteedjdflojfhmaa
section
set_option linter.unusedVariables false
set_option linter.unusedSimpArgs false
set_option synthInstance.maxSize 20000
set_option maxHeartbeats 2000000
set_option maxRecDepth 20000
open Go.RowKit Go.Maps

/-- How many are accepted, and what is wrong with the next one. -/
def wholeL (W p : Int) : St → Lg → List Ent → Nat → (Int × Int) × St
  | S, _, [], i => (((i : Int), 0), S)
  | S, L, e :: es, i => if (acceptM S W p L e).1 = 0 then wholeL W p (acceptM S W p L e).2.1 (acceptM S W p L e).2.2 es (i + 1) else (((i : Int), (acceptM S W p L e).1), S)

theorem wholeL_nil (W p : Int) (S : St) (L : Lg) (i : Nat) : wholeL W p S L [] i = (((i : Int), 0), S) := rfl
theorem wholeL_cons (W p : Int) (S : St) (L : Lg) (e : Ent) (es : List Ent) (i : Nat) : wholeL W p S L (e :: es) i = if (acceptM S W p L e).1 = 0 then wholeL W p (acceptM S W p L e).2.1 (acceptM S W p L e).2.2 es (i + 1) else (((i : Int), (acceptM S W p L e).1), S) := rfl

theorem accept_len (S : St) (W p : Int) (L : Lg) (e : Ent) : (acceptM S W p L e).2.1.rows.length ≤ S.rows.length + 1 := by
  unfold acceptM
  split
  · exact get_len S _
  · exact Nat.le_succ _
theorem accept_no {S : St} {W p : Int} {L : Lg} {e : Ent} (h : (acceptM S W p L e).1 ≠ 0) : (acceptM S W p L e).2 = (S, L) := by
  unfold acceptM at h ⊢
  by_cases c : checkM S W p L e = 0
  · rw [if_pos c] at h; exact absurd rfl h
  · rw [if_neg c]

theorem whole_none (w : World) (v p : Value) (a : Option Addr) (c : Nat) : Calls Try.prog 27 #[v, p, .slice a 0 c] w fun r w' => r = .returned (.tuple #[.int .i64 0, .int .i64 0]) ∧ w' = w := by
  go_enter Try.func27, Try.ntmps27
  go_wp2
  go_ret2
  exact ⟨rfl, rfl⟩

theorem whole_any {w : World} {o : Nat → Nat} {b : Nat} {S : St} {p : Int} (hO : OrcAt w o b S) (hp : U64 p) {v : Value} {ps : List (Ent × Value)} {q0 : Ent × Value} (h0 : ps[0]? = some q0) (hw0 : 0 ≤ q0.1.w) (hw7 : q0.1.w < 8) (hv : RowE w v ps) (hE : Ents w o ps) (hrow : ∀ k, v.ownBlock = some k → o k ≠ 1) (hfew : ps.length ≤ 1000) (hlen : ∀ q ∈ ps, q.1.b.length ≤ 90000) (hN : S.rows.length + ps.length + 1 < 1000000000) :
    Calls Try.prog 27 #[ptr b, .int .u64 p, v] w fun r w' => r = .returned (.tuple #[.int .i64 (wholeL q0.1.w p S ⟨[], 0⟩ (ps.map (·.1)) 0).1.1, .int .i64 (wholeL q0.1.w p S ⟨[], 0⟩ (ps.map (·.1)) 0).1.2]) ∧ ∃ o', OrcAt w' o' b (wholeL q0.1.w p S ⟨[], 0⟩ (ps.map (·.1)) 0).2 ∧ Mv [1] w o w' o' := by
  obtain ⟨c, hc1, hcj, hcw⟩ := fresh_owner w o 1
  have hne : ps ≠ [] := fun e => by subst e; simp at h0
  have hblt := hv.blockLt hne
  obtain ⟨a, cap, rfl⟩ := hv.len
  obtain ⟨g, off, rfl, hcell0⟩ := hv.at h0
  have hcap := hv.cap
  have hwc := hcell0 0 _ rfl
  simp only [Nat.add_zero, Nat.zero_mul] at hwc
  have hpos : (0 : Int) < ps.length := by have := (List.getElem?_eq_some_iff.1 h0).1; omega
  have hgo : o g ≠ 1 ∧ o g ≠ c ∧ g < w.heap.size := ⟨hrow g rfl, hcw g (hblt g rfl), hblt g rfl⟩
  obtain ⟨ew, hew⟩ : ∃ ew, q0.1.w = ew := ⟨_, rfl⟩
  rw [hew] at hw0 hw7 hwc ⊢
  have HNW := fun w' o' => newL_ok w' o' c b ew p hw0 hw7 hp
  have hp1 : ¬ ((ps.length : Int) == 0) = true := by
    have := (List.getElem?_eq_some_iff.1 h0).1
    simp
    omega
  have hp2 : ((ps.length : Int) == 0) = false := by simpa using hp1
  have HV : Hid (RowE w (.slice (some ⟨g, off, none⟩) ps.length cap) ps) := hv
  have HE : Hid (Ents w o ps) := hE
  have HLn : Hid (∀ q ∈ ps, q.1.b.length ≤ 90000) := hlen
  have HO0 : Hid (OrcAt w o b S) := hO
  have HCW : Hid (∀ k, k < w.heap.size → o k ≠ c) := hcw
  have HGo : Hid (o g ≠ 1 ∧ o g ≠ c ∧ g < w.heap.size) := hgo
  have HN0 : Hid (S.rows.length + ps.length + 1 < 1000000000) := hN
  have HFw : Hid (ps.length ≤ 1000) := hfew
  clear hv hE hlen hO hcw hgo hrow hcell0 h0 hblt hp1 hN
  go_enter Try.func27, Try.ntmps27
  go_wp2_with (go_at_call 14; go_must (refine (HNW w o).mono ?_; rintro r w1 ⟨rfl, hl1, hb1⟩))
  have HB1 : Hid (Below w.heap.size w w1) := hb1
  have HM1 : Hid (Mv [1, c] w o w1 (newTo o w c)) := (show Mv _ _ _ _ _ from Mv.of_below c hb1)
  have HL1 : Hid (LogIs w1 (newTo o w c) c w.heap.size b ew p ⟨[], 0⟩) := hl1
  have HO1 : Hid (OrcAt w1 (newTo o w c) b S) := HO0.out.mv (Mv.of_below (I := []) c hb1) (by simp)
  clear hl1 hb1 HNW hwc
  obtain ⟨la, hla⟩ : ∃ la, la = w.heap.size := ⟨_, rfl⟩
  rw [← hla] at HL1 ⊢
  clear hla
  go_loopw [31] (fun i wr => ∃ (k : Nat) (S' : St) (L' : Lg) (o' : Nat → Nat), i = .int .i64 k ∧ k ≤ ps.length ∧ Hid (S'.rows.length ≤ S.rows.length + k) ∧ Hid (wholeL ew p S ⟨[], 0⟩ (ps.map (·.1)) 0 = wholeL ew p S' L' ((ps.map (·.1)).drop k) k) ∧ Hid (OrcAt wr o' b S') ∧ Hid (LogIs wr o' c la b ew p L') ∧ Hid (Mv [1, c] w o wr o')) (fun i _ => ps.length - (intOf i).toNat)
  case atStart => exact ⟨0, S, ⟨[], 0⟩, newTo o w c, rfl, by omega, (show _ ≤ _ by omega), (show _ = _ from rfl), HO1, HL1, HM1⟩
  case round =>
    obtain ⟨k, S', L', o', rfl, hk, HS, HW, HO, HL, HM⟩ := hrel
    by_cases hk8 : k < ps.length
    · obtain ⟨q, hq⟩ : ∃ q, ps[k]? = some q := ⟨_, List.getElem?_eq_getElem hk8⟩
      have hrow' : RowE wr (.slice (some ⟨g, off, none⟩) ps.length cap) ps := HV.out.mv HM.out (fun k' hk' => by
        simp [Value.ownBlock] at hk'
        subst hk'
        have := HGo.out
        simp
        exact ⟨this.1, this.2.1⟩)
      obtain ⟨g', off', ea, hc⟩ := hrow'.at hq
      cases ea
      have hmem := List.mem_of_getElem? hq
      have hEq := HE.out q hmem
      have hEq' := (HE.out.mv HM.out (by simp; omega)) q hmem
      have hdrop : (ps.map (·.1)).drop k = q.1 :: (ps.map (·.1)).drop (k + 1) := by
        rw [List.drop_eq_getElem_cons (by simpa using hk8)]
        congr 1
        rw [List.getElem_map]
        have := List.getElem?_eq_getElem hk8
        rw [hq] at this
        rw [← Option.some.inj this]
      have AC := fun (w2 : World) (hb : Below wr.heap.size wr w2) => accept_any (S := S') (L := L') (e := q.1) (x := q.2) (HO.out.mv (Mv.of_below (I := []) 0 hb) (by simp)) (HL.out.mv (Mv.of_below (I := []) 0 hb) (by simp) (by simp)) (by omega) (by omega) hEq.1 (hEq'.2.mv (Mv.of_below (I := []) 0 hb) (by simp)) (HLn.out q hmem) (by have := HS.out; have := HN0.out; omega)
      have HWk := HW.out
      rw [hdrop, wholeL_cons] at HWk
      have HAl := accept_len S' ew p L' q.1
      have HAn := accept_no (S := S') (W := ew) (p := p) (L := L') (e := q.1)
      generalize acceptM S' ew p L' q.1 = t at *
      obtain ⟨K, S2, L2⟩ := t
      have HAl' : Hid (S2.rows.length ≤ S'.rows.length + 1) := HAl
      have HAn' : Hid (K ≠ 0 → (S2, L2) = (S', L')) := HAn
      have HWk' : Hid (wholeL ew p S ⟨[], 0⟩ (ps.map (·.1)) 0 = if K = 0 then wholeL ew p S2 L2 ((ps.map (·.1)).drop (k + 1)) (k + 1) else (((k : Int), K), S')) := HWk
      obtain ⟨e, x⟩ := q
      dsimp only at *
      obtain ⟨ax, cx, hxx⟩ := hEq'.2.1.len
      subst hxx
      obtain ⟨ew', ei, ep, et, eu, en, eb, eg⟩ := e
      unfold ev at AC
      unfold ec at hc
      dsimp only at *
      have HAC : Hid (∀ w2, Below wr.heap.size wr w2 → Calls Try.prog 25 #[ptr la, .agg #[.int .i64 ew', .int .i64 ei, .int .u64 ep, .int .i64 et, .int .i64 eu, .int .i64 en, .slice ax eb.length cx, .int .u64 eg]] w2 fun r w3 => r = .returned (.int .i64 K) ∧ ∃ o3, OrcAt w3 o3 b S2 ∧ LogIs w3 o3 c la b ew p L2 ∧ Mv [1, c] wr o' w3 o3) := fun w2 hb => (AC w2 hb).mono (fun r w3 ⟨h0, o3, h1, h2, h3⟩ => ⟨h0, o3, h1, h2, (Mv.of_below 0 hb).trans h3⟩)
      have d0 := hc 0 _ rfl
      have d1 := hc 1 _ rfl
      have d2 := hc 2 _ rfl
      have d3 := hc 3 _ rfl
      have d4 := hc 4 _ rfl
      have d5 := hc 5 _ rfl
      have d6 := hc 6 _ rfl
      have d7 := hc 7 _ rfl
      simp only [Nat.add_zero] at d0
      clear hc AC hdrop HWk HAl HAn hrow' hEq hEq' hmem hq
      by_cases hK : K = 0
      · subst hK
        go_wp2_with (go_at_call 25; go_must (refine (HAC.out _ (balloc (Below.refl _ _) _)).mono ?_; rintro r w3 ⟨rfl, h3⟩))
        go_roundw
        case rel =>
          obtain ⟨o3, h1, h2, h3⟩ := h3
          refine ⟨k + 1, S2, L2, o3, by go_num, by omega, ?_, ?_, h1, h2, HM.out.trans h3⟩
          · show _ ≤ _
            have := HAl'.out
            have := HS.out
            omega
          · show _ = _
            rw [HWk'.out]
            simp
        case measure => simp [intOf]; omega
      · have hK1 : (K != 0) = true := by simpa using hK
        have HK : Hid (K ≠ 0) := hK
        clear hK
        go_wp2_with (go_at_call 25; go_must (refine (HAC.out _ (balloc (Below.refl _ _) _)).mono ?_; rintro r w3 ⟨rfl, h3⟩))
        go_ret2
        have hSS := HAn'.out HK.out
        cases hSS
        rw [HWk'.out, if_neg HK.out]
        obtain ⟨o3, h1, h2, h3⟩ := h3
        refine ⟨rfl, o3, h1, ?_⟩
        exact Mv.restrict ((HM.out.trans h3).widen (by simp)) HCW.out
    · obtain rfl : k = ps.length := by omega
      go_wp2
      go_ret2
      have hd : (ps.map (·.1)).drop ps.length = [] := by simp
      have hW2 := HW.out
      rw [hd, wholeL_nil] at hW2
      rw [hW2]
      exact ⟨rfl, o', HO.out, Mv.restrict (HM.out.widen (by simp)) HCW.out⟩
end

section
set_option linter.unusedVariables false
set_option linter.unusedSimpArgs false
set_option synthInstance.maxSize 20000
set_option maxHeartbeats 2000000
set_option maxRecDepth 20000
open Go.RowKit Go.Maps
open Classical

/-- The oracle and a pair of it. -/
structure Keyed' (S : St) (s p : Int) : Prop where
  good : Good S
  sec : S.at s = some .secret
  pub : S.at p = some (.pub s)
theorem Keyed'.us {S : St} {s p : Int} (h : Keyed' S s p) : U64 s := (at_ok h.good h.sec).1
theorem Keyed'.up {S : St} {s p : Int} (h : Keyed' S s p) : U64 p := (at_ok h.good h.pub).1
theorem Keyed'.get {S : St} {s p : Int} (h : Keyed' S s p) (hN : S.rows.length < 1000000000) {x : What} (hx : WhatOk x) : Keyed' (S.get x).2 s p :=
  ⟨get_good h.good hN hx, (sub_get h.good hN x).at' _ _ h.sec, (sub_get h.good hN x).at' _ _ h.pub⟩

theorem verify_sig {S : St} {s p : Int} (h : Keyed' S s p) (l : List Int) (g : Int) : S.verify p l g = decide (S.of (.sig s l) = some g) := verify_pub h.pub l g

theorem candE_ok {W : Int} {L : Lg} {t u n : Int} {l : List Int} (hW : I64 W) (hfew : L.es.length ≤ 200) (hsum : U64 L.sum) (ht : I64 t) (hu : I64 u) (hn : I64 n) (hl : Oct l) : EOk (candE W L t u n l) := by
  refine ⟨hW, ?_, hsum, ht, hu, hn, ?_, hl⟩
  · unfold I64 candE; dsimp only; omega
  · unfold U64 candE; dsimp only; omega

theorem Whole.sumU {S : St} {W p s : Int} {L : Lg} (h : Whole S W p s L) (hg : Good S) : U64 L.sum := by
  rw [h.sum]
  unfold sumOf
  cases hl : L.es.getLast? with
  | none => show U64 0; unfold U64; omega
  | some f =>
    dsimp only
    cases ho : S.of (.hash (bytesE f)) with
    | none => show U64 0; unfold U64; omega
    | some g => exact (of_ok hg ho).1
theorem Whole.few {S : St} {W p s : Int} {L : Lg} (h : Whole S W p s L) : L.es.length ≤ 200 := by
  by_cases hc : L.es.length = 0
  · omega
  · obtain ⟨e, he⟩ : ∃ e, L.es[L.es.length - 1]? = some e := ⟨_, List.getElem?_eq_getElem (by omega)⟩
    have h1 := ((check_zero _ _ _ _ _).1 (h.each _ _ he).1)
    have h2 := h1.1.2.1
    have h3 := h1.2.2.2.1
    simp at h3
    omega

/-- What Issue leaves. -/
structure IssueOk (S : St) (W p s : Int) (L : Lg) (e0 e : Ent) (S' : St) (L' : Lg) : Prop where
  key : Keyed' S' s p
  sub : Sub S S'
  whole : Whole S' W p s L'
  len : S'.rows.length ≤ S.rows.length + 2
  es : L'.es = L.es ++ [e]
  ok : EOk e
  right : rightE e
  form : e = { e0 with g := e.g }
  sig : ∀ g, S.of (.sig s (textL e0)) = some g → e.g = g
  ver : S'.verify p (textL e) e.g = true

theorem issue_no {S : St} {W s : Int} {L : Lg} {t u n : Int} {l : List Int} (hk : issueK L (candE W L t u n l) ≠ 0) : issueM S W s L t u n l = ((zeroE, issueK L (candE W L t u n l)), S, L) := by
  unfold issueM
  rw [if_neg hk]
theorem issue_ok {S : St} {W p s : Int} {L : Lg} (K : Keyed' S s p) (h : Whole S W p s L) (hN : S.rows.length + 2 < 1000000000) (hW : I64 W) {t u n : Int} (ht : I64 t) (hu : I64 u) (hn : I64 n) {l : List Int} (hl : Oct l) (hk : issueK L (candE W L t u n l) = 0) :
    ∃ e S' L', issueM S W s L t u n l = ((e, 0), S', L') ∧ IssueOk S W p s L (candE W L t u n l) e S' L' := by
  unfold issueM
  rw [if_pos hk]
  obtain ⟨k1, k2, k3⟩ := (issueK_zero L _).1 hk
  have ok0 := candE_ok (L := L) hW (by omega) (h.sumU K.good) ht hu hn hl
  generalize he0 : candE W L t u n l = e0 at *
  have hi0 : e0.i = L.es.length ∧ e0.p = L.sum ∧ e0.w = W := by rw [← he0]; exact ⟨rfl, rfl, rfl⟩
  have oct := bytes_oct' ok0
  have hx1 : WhatOk (.sig s (textL e0)) := ⟨K.us, oct.1⟩
  have sub1 := sub_get K.good (by omega) (.sig s (textL e0))
  have K1 := K.get (by omega) hx1
  have l1 := get_len S (.sig s (textL e0))
  have g1 := get_of S (.sig s (textL e0))
  have gu := (get_ne K.good (by omega) hx1).2
  have gs : ∀ g, S.of (.sig s (textL e0)) = some g → (S.get (.sig s (textL e0))).1 = g := fun g hg => by rw [get_some hg]
  unfold signM
  generalize S.get (.sig s (textL e0)) = t1 at *
  obtain ⟨g, S1⟩ := t1
  dsimp only at *
  have ok1 : EOk { e0 with g := g } := ⟨ok0.1, ok0.2.1, ok0.2.2.1, ok0.2.2.2.1, ok0.2.2.2.2.1, ok0.2.2.2.2.2.1, gu, ok0.2.2.2.2.2.2.2⟩
  have w1 := h.sub sub1
  have hv1 : S1.verify p (textL { e0 with g := g }) g = true := by
    rw [verify_pub K1.pub]
    exact decide_eq_true g1
  have c1 : checkM S1 W p L { e0 with g := g } = 0 := (check_zero _ _ _ _ _).2 ⟨k2, hi0.2.2, hv1, hi0.1, hi0.2.1, k3⟩
  have w2 := w1.add K1.good (by omega) ok1 c1
  have hx2 : WhatOk (.hash (bytesE { e0 with g := g })) := (bytes_oct' ok1).2
  have sub2 := sub_get K1.good (by omega) (.hash (bytesE { e0 with g := g }))
  have K2 := K1.get (by omega) hx2
  have l2 := get_len S1 (.hash (bytesE { e0 with g := g }))
  refine ⟨_, _, _, rfl, K2, sub1.trans sub2, w2, ?_, rfl, ok1, k2, rfl, gs, verify_sub sub2 K1.pub hv1⟩
  show (S1.get (.hash (bytesE { e0 with g := g }))).2.rows.length ≤ _
  omega

/-- What Accept leaves. -/
structure AcceptOk (S : St) (W p s : Int) (L : Lg) (e : Ent) (S' : St) (L' : Lg) : Prop where
  key : Keyed' S' s p
  sub : Sub S S'
  whole : Whole S' W p s L'
  len : S'.rows.length ≤ S.rows.length + 1
  es : L'.es = L.es ++ [e]
theorem accept_ok {S : St} {W p s : Int} {L : Lg} (K : Keyed' S s p) (h : Whole S W p s L) (hN : S.rows.length + 2 < 1000000000) {e : Ent} (he : EOk e) (hk : checkM S W p L e = 0) : ∃ S' L', acceptM S W p L e = (0, S', L') ∧ AcceptOk S W p s L e S' L' := by
  unfold acceptM
  rw [if_pos hk]
  refine ⟨_, _, rfl, K.get (by omega) (bytes_oct' he).2, sub_get K.good (by omega) _, h.add K.good (by omega) he hk, get_len S _, rfl⟩
theorem accept_bad {S : St} {W p : Int} {L : Lg} {e : Ent} (hk : checkM S W p L e ≠ 0) : acceptM S W p L e = (checkM S W p L e, S, L) := by
  unfold acceptM
  rw [if_neg hk]

/-- A beginning of a whole log accepts what comes next, and nothing is asked anew. -/
theorem Whole.next {S : St} {W p s : Int} {L : Lg} (h : Whole S W p s L) {i : Nat} {e : Ent} (hi : L.es[i]? = some e) :
    acceptM S W p ⟨L.es.take i, sumOf S (L.es.take i)⟩ e = (0, S, ⟨L.es.take (i + 1), sumOf S (L.es.take (i + 1))⟩) := by
  obtain ⟨h1, h2, h3⟩ := h.each i e hi
  obtain ⟨g, hg⟩ := Option.isSome_iff_exists.1 h3
  have ht : L.es.take (i + 1) = L.es.take i ++ [e] := by rw [List.take_add_one, hi]; rfl
  unfold acceptM
  rw [if_pos h1]
  unfold addM
  rw [get_some hg, ht]
  have : sumOf S (L.es.take i ++ [e]) = g := by
    unfold sumOf
    rw [List.getLast?_append]
    show (S.of (.hash (bytesE e))).getD 0 = g
    rw [hg]
    rfl
  rw [this]

theorem whole_take {S : St} {W p s : Int} {L : Lg} (h : Whole S W p s L) : ∀ (n i : Nat), i + n = L.es.length → wholeL W p S ⟨L.es.take i, sumOf S (L.es.take i)⟩ (L.es.drop i) i = (((L.es.length : Int), 0), S)
  | 0, i, hi => by
    rw [List.drop_of_length_le (by omega), wholeL_nil, show i = L.es.length by omega]
  | n + 1, i, hi => by
    obtain ⟨e, he⟩ : ∃ e, L.es[i]? = some e := ⟨_, List.getElem?_eq_getElem (by omega)⟩
    have hd : L.es.drop i = e :: L.es.drop (i + 1) := by
      rw [List.drop_eq_getElem_cons (by omega)]
      congr 1
      have := List.getElem?_eq_getElem (l := L.es) (i := i) (by omega)
      rw [he] at this
      exact (Option.some.inj this).symm
    rw [hd, wholeL_cons, h.next he, if_pos rfl]
    exact whole_take h n (i + 1) (by omega)
theorem whole_all {S : St} {W p s : Int} {L : Lg} (h : Whole S W p s L) : wholeL W p S ⟨[], 0⟩ L.es 0 = (((L.es.length : Int), 0), S) := by
  have := whole_take h L.es.length 0 (by omega)
  simpa [sumOf] using this

theorem sumOf_snoc (S : St) (es : List Ent) (e : Ent) : sumOf S (es ++ [e]) = (S.of (.hash (bytesE e))).getD 0 := by
  unfold sumOf
  rw [List.getLast?_append]
  rfl

/-- One sum, one log. -/
theorem heads_take {S : St} {W p s : Int} {L M : Lg} (hg : Good S) (h : Whole S W p s L) (k : Whole S W p s M) : ∀ n, n ≤ L.es.length → n ≤ M.es.length → sumOf S (L.es.take n) = sumOf S (M.es.take n) → L.es.take n = M.es.take n
  | 0, _, _, _ => by simp
  | n + 1, h1, h2, hs => by
    obtain ⟨e, he⟩ : ∃ e, L.es[n]? = some e := ⟨_, List.getElem?_eq_getElem (by omega)⟩
    obtain ⟨f, hf⟩ : ∃ f, M.es[n]? = some f := ⟨_, List.getElem?_eq_getElem (by omega)⟩
    have hte : L.es.take (n + 1) = L.es.take n ++ [e] := by rw [List.take_add_one, he]; rfl
    have htf : M.es.take (n + 1) = M.es.take n ++ [f] := by rw [List.take_add_one, hf]; rfl
    obtain ⟨c1, o1, s1⟩ := h.each n e he
    obtain ⟨c2, o2, s2⟩ := k.each n f hf
    obtain ⟨g1, hg1⟩ := Option.isSome_iff_exists.1 s1
    obtain ⟨g2, hg2⟩ := Option.isSome_iff_exists.1 s2
    rw [hte, htf, sumOf_snoc, sumOf_snoc, hg1, hg2] at hs
    have hgg : g1 = g2 := hs
    subst hgg
    have hb := of_inj hg hg1 hg2
    rw [What.hash.injEq] at hb
    have z1 := (check_zero _ _ _ _ _).1 c1
    have z2 := (check_zero _ _ _ _ _).1 c2
    have hef : e = f := (bytes_inj z1.1 o1 z2.1 o2 [] [] (by rw [hb])).1
    subst hef
    have ih := heads_take hg h k n (by omega) (by omega) (z1.2.2.2.2.1.symm.trans z2.2.2.2.2.1)
    rw [hte, htf, ih]
theorem heads_one {S : St} {W p s : Int} {L M : Lg} (hg : Good S) (h : Whole S W p s L) (k : Whole S W p s M) (hl : L.es.length = M.es.length) : L.sum = M.sum ↔ L.es = M.es := by
  constructor
  · intro e
    rw [h.sum, k.sum] at e
    have := heads_take hg h k L.es.length (Nat.le_refl _) (by omega) (by rw [List.take_of_length_le (Nat.le_refl _), List.take_of_length_le (by omega)]; exact e)
    rwa [List.take_of_length_le (Nat.le_refl _), List.take_of_length_le (by omega)] at this
  · intro e
    rw [h.sum, k.sum, e]
theorem heads_bool {S : St} {W p s : Int} {L M : Lg} (hg : Good S) (h : Whole S W p s L) (k : Whole S W p s M) (hl : L.es.length = M.es.length) : (L.sum == M.sum) = decide (L.es = M.es) := by
  rw [Bool.eq_iff_iff]
  simp only [beq_iff_eq, decide_eq_true_eq]
  exact heads_one hg h k hl

/-- An entry that is there already. -/
theorem check_there {S : St} {W p s : Int} {L : Lg} (h : Whole S W p s L) {i : Nat} {f : Ent} (hf : L.es[i]? = some f) {e : Ent} (he : rightE e) (hw : e.w = W) (hv : S.verify p (textL e) e.g = true) (hi : e.i = i) : checkM S W p L e = if sameB e f then 8 else 9 := by
  have hr := (rightB_iff e).2 he
  have hm : metK L.es e = if sameB e f then 8 else 9 := by
    unfold metK
    rw [hi, Int.toNat_natCast, hf]
  unfold checkM askK
  rw [hr, hv, hm]
  simp only [firstK, unl, Bool.and_self, if_true, hw, beq_self_eq_true]
  by_cases hs : sameB e f = true <;> simp [hs]
theorem check_replay {S : St} {W p s : Int} {L : Lg} (h : Whole S W p s L) {i : Nat} {f : Ent} (hf : L.es[i]? = some f) : checkM S W p L f = 8 := by
  have z := (check_zero _ _ _ _ _).1 (h.each i f hf).1
  have hi : f.i = i := by
    have h1 := z.2.2.2.1
    have h2 := (List.getElem?_eq_some_iff.1 hf).1
    simp only [List.length_take] at h1
    omega
  rw [check_there h hf z.1 z.2.1 z.2.2.1 hi, if_pos ((sameB_iff f f).2 rfl)]
end
end Go.Proofs.Yteedjdflojfhmaa
