/-
  Rows that a call makes (OutAt); slices.Clone of entries; the queue in order.
-/
import Derived.Test.YtigfklcclfpcjaaQFun
namespace Go.Proofs.Ytigfklcclfpcjaa
set_option linter.unusedVariables false
set_option linter.unusedSimpArgs false
set_option synthInstance.maxSize 20000
set_option maxHeartbeats 2000000
set_option maxRecDepth 20000
open Go.RowKit Go.Maps

/-- A row of entries of the owner j, in a block that came behind B. -/
structure OutAt (w : World) (o : Nat → Nat) (j B : Nat) (v : Value) (ps : List (Ent × Value)) : Prop where
  row : w.ownsRow 0 38 8 v ps.length (flatE ps)
  own : ∀ k, v.ownBlock = some k → o k = j ∧ B ≤ k
  ents : Ents w o ps
section
variable {w w' : World} {o o' : Nat → Nat} {j B : Nat} {v : Value} {ps : List (Ent × Value)}
theorem OutAt.mv {I : List Nat} (h : OutAt w o j B v ps) (m : Mv I w o w' o') (h0 : 0 ∉ I) (hj : j ∉ I) : OutAt w' o' j B v ps :=
  ⟨ownsRow_block h.row (fun k hk => m.block k (h.row.lt k hk).2 (by rw [(h.own k hk).1]; exact hj)), fun k hk => ⟨by rw [m.ext k (h.row.lt k hk).2]; exact (h.own k hk).1, (h.own k hk).2⟩, h.ents.mv m h0⟩
theorem OutAt.rowE (h : OutAt w o j B v ps) : RowE w v ps := rowE_own h.row
theorem out_nil (w : World) (o : Nat → Nat) (j B : Nat) : OutAt w o j B (.slice none 0 0) [] := ⟨World.ownsRow_nil _ _ _ _, fun k hk => (by cases hk), Ents.nil _ _⟩
theorem OutAt.add {w5 : World} {v' : Value} (h : OutAt w o j B v ps) (hj0 : j ≠ 0) (hB : B ≤ w.heap.size) {e : Ent} {x : Value} (he : EOk e) (hx : Kp0 w o x e.b) (ob : Obj) (hg : (w.alloc ob).grownBy w5 v.ownBlock)
    (hrow : w5.ownsRow 0 38 8 v' (ps ++ [(e, x)]).length (flatE (ps ++ [(e, x)]))) (hwh : ∀ k, v'.ownBlock = some k → v.ownBlock = some k ∨ (w.alloc ob).heap.size ≤ k) :
    ∃ o', OutAt w5 o' j B v' (ps ++ [(e, x)]) ∧ Mv [j] w o w5 o' := by
  have hsz : (w.alloc ob).heap.size = w.heap.size + 1 := by simp
  have G : w.grownBy w5 v.ownBlock := grown_none (World.grownBy_alloc w ob none) hg
  have M : Mv [j] w o w5 (newBy o w (fun k => if v'.ownBlock = some k then j else 0)) := by
    refine ⟨G.os, G.tape, G.output, G.size, fun k hk => newBy_old hk, fun k hk hn => G.block k hk (fun e => hn ?_)⟩
    rw [(h.own k e.symm).1]; simp
  refine ⟨_, ⟨hrow, fun k hk => ?_, (h.ents.mv M (by simp; omega)).append (ents_one he (hx.mv M (by simp; omega)))⟩, M⟩
  rcases hwh k hk with r | r
  · exact ⟨by rw [newBy_old (h.row.lt k r).2]; exact (h.own k r).1, (h.own k r).2⟩
  · exact ⟨by rw [newBy_new (by omega)]; exact if_pos hk, by omega⟩
end

theorem cloneE_any {w : World} {v : Value} {ps : List (Ent × Value)} (hv : RowE w v ps) (h1 : ∀ u ∈ flatE ps, u.oneCell' = true) (hfew : ps.length ≤ 1000) :
    Calls Try.prog 50 #[v] w fun r w' => ∃ v', r = .returned v' ∧ w'.ownsRow 0 38 8 v' ps.length (flatE ps) ∧ (∀ k, v'.ownBlock = some k → w.heap.size ≤ k) ∧ Below w.heap.size w w' := by
  have HV : Hid (RowE w v ps) := hv
  have HO1 : Hid (∀ u ∈ flatE ps, u.oneCell' = true) := h1
  obtain ⟨a, cap, rfl, h2, h3, h4, h5⟩ := hv
  cases a with
  | none =>
    have hc := h4 rfl
    subst hc
    have hl0 : ps = [] := List.eq_nil_of_length_eq_zero (by omega)
    subst hl0
    have hq := eql_slice 57 38 (by kernel_rfl) w none 0 0
    go_enter Try.func50, Try.ntmps50
    go_wp2
    go_ret
    exact ⟨_, rfl, World.ownsRow_nil _ _ _ _, (fun k hk => by cases hk), Below.refl _ _⟩
  | some ad =>
    have hq := eql_slice 57 38 (by kernel_rfl) w (some ad) ps.length cap
    have HO : Hid ((w.alloc (.cells #[] 38)).ownsRow 0 38 8 (.slice (some ⟨w.heap.size, 0, none⟩) 0 0) ([] : List (Ent × Value)).length (flatE [])) :=
      ⟨rfl, .inr ⟨w.heap.size, 0, #[], rfl, Nat.zero_le _, heap_alloc_new w _, Nat.le_refl _, Nat.zero_le _, rfl, rfl⟩⟩
    have HB : Hid (Below w.heap.size w (w.alloc (.cells #[] 38))) := (show Below _ _ _ from balloc (Below.refl _ _) _)
    clear h5
    go_enter Try.func50, Try.ntmps50
    go_wp2_with (at_builtin; go_must (refine wpList_append_entsT 57 und57 rfl (.tmp 5) (.tmp 6) rfl _ [] rfl HO.out _ ps rfl (HV.out.below HB.out) HO1.out (by simp; omega) ?_; intro v2 w2 hown2 hg2 hwh2))
    go_ret
    refine ⟨_, rfl, by simpa using hown2, fun k hk => ?_, ?_⟩
    · rcases hwh2 k hk with r | r
      · cases r
        exact Nat.le_refl _
      · have := HB.out.size
        omega
    · exact bgrown HB.out (Nat.le_refl _) hg2

theorem make_out (w : World) (n : Nat) (hn : n ≤ 100000) : (Instr.makeSlice 30 (.int .i64 0) (.int .i64 (n : Int))).run Try.prog w = .ok (.slice (some ⟨w.heap.size, 0, none⟩) 0 n) (w.alloc (.cells (flatE (List.replicate n zq)).toArray 38)) := by
  obtain ⟨i, hi, hz, hs1, hs2⟩ := infoE
  have h := run_make (P := Try.prog) w 30 38 i _ Try.underlying30 hi hz .i64 .i64 0 n (by omega) (by omega) (by rw [hs2]; omega) (by omega)
  rw [h, hs1, ← made_ents]
  simp
theorem out_made (w : World) (n : Nat) (hn : n ≤ 100000) : (w.alloc (.cells (flatE (List.replicate n zq)).toArray 38)).ownsRow 0 38 8 (.slice (some ⟨w.heap.size, 0, none⟩) 0 n) ([] : List (Ent × Value)).length (flatE []) := by
  refine ⟨rfl, .inr ⟨w.heap.size, n, _, rfl, Nat.zero_le _, heap_alloc_new w _, Nat.zero_le _, by unfold maxLen; omega, ?_, ?_⟩⟩
  · simp [flatE_length]
  · simp [flatE]

/-- The same entries, in order. -/
structure InOrd (ps rs : List (Ent × Value)) : Prop where
  perm : rs.Perm ps
  sorted : rs.Pairwise (fun p q => ltQ q p = false)

def slLen : Value → Nat
  | .slice _ n _ => n
  | _ => 0

/-- Some are out, in order; the others are a heap still. -/
structure OrdS (ps outs qs : List (Ent × Value)) : Prop where
  perm : (outs ++ qs).Perm ps
  heap : HeapF ltQ (fn zq qs) qs.length
  sorted : outs.Pairwise (fun p q => ltQ q p = false)
  behind : ∀ p ∈ outs, ∀ q ∈ qs, ltQ q p = false
def OrdW (w : World) (o : Nat → Nat) (c c2 bR : Nat) (ps : List (Ent × Value)) (wr : World) (ov : Value) (n : Nat) : Prop :=
  ∃ o' outs qs v, QAt wr o' c bR 59 [] v qs ∧ OutAt wr o' c2 w.heap.size ov outs ∧ Mv [c, c2] w o wr o' ∧ outs.length = n ∧ OrdS ps outs qs
theorem OrdS.len {ps outs qs : List (Ent × Value)} (h : OrdS ps outs qs) : outs.length + qs.length = ps.length := by
  have := h.perm.length_eq
  rwa [List.length_append] at this
theorem OrdS.done {ps outs : List (Ent × Value)} (h : OrdS ps outs []) : InOrd ps outs := ⟨by simpa using h.perm, h.sorted⟩
theorem OrdS.step {ps outs qs qs2 : List (Ent × Value)} {q : Ent × Value} (h : OrdS ps outs qs) (hq : qs[0]? = some q) (hb : HeapedBut qs q qs2) : OrdS ps (outs ++ [q]) qs2 := by
  have hmem : ∀ p ∈ qs2, p ∈ qs := fun p hp => hb.perm.mem_iff.1 (List.mem_append_left _ hp)
  have hq0 : fn zq qs 0 = q := fn_some hq
  refine ⟨?_, hb.heap, ?_, fun p hp r hr => ?_⟩
  · refine List.Perm.trans ?_ h.perm
    rw [List.append_assoc]
    exact List.Perm.append_left _ ((List.perm_append_comm (l₁ := [q]) (l₂ := qs2)).trans hb.perm)
  · rw [List.pairwise_append]
    refine ⟨h.sorted, List.pairwise_singleton _ _, fun a ha b hb' => ?_⟩
    simp at hb'
    subst hb'
    exact h.behind a ha _ (List.mem_of_getElem? hq)
  · rcases List.mem_append.1 hp with hp | hp
    · exact h.behind p hp r (hmem r hr)
    · simp at hp
      subst hp
      obtain ⟨k, hk⟩ := List.mem_iff_getElem?.1 (hmem r hr)
      have := h.heap.least ltQ_ahead (k := k) (List.getElem?_eq_some_iff.1 hk).1
      rw [hq0, fn_some hk] at this
      exact this

theorem inOrder_any {w : World} {o : Nat → Nat} {j b : Nat} {T : TypeId} {pre : List Value} {v : Value} {ps : List (Ent × Value)} (h : QAt w o j b T pre v ps) (hfew : ps.length ≤ 900) (hH : HeapF ltQ (fn zq ps) ps.length) :
    Calls Try.prog 38 #[.pointer (some ⟨b, pre.length, none⟩)] w fun r w' => ∃ v', r = .returned v' ∧ ∃ rs, InOrd ps rs ∧ w'.ownsRow 0 38 8 v' rs.length (flatE rs) ∧ (∀ k, v'.ownBlock = some k → w.heap.size ≤ k) ∧ Below w.heap.size w w' := by
  obtain ⟨c, hc1, hcj, hcf⟩ := fresh_owner w o j
  obtain ⟨c2, hd1, hdc, hdf⟩ := fresh_owner w o c
  have hc0 := h.cell
  have CL := cloneE_any h.rowE h.ents.one (by omega)
  have HCL : Hid (Calls _ _ _ _ _) := CL
  have HH : Hid (HeapF ltQ (fn zq ps) ps.length) := hH
  -- the beginning
  have ST : ∀ (w1 w3 : World) (v1 : Value), Below w.heap.size w w1 → w1.ownsRow 0 38 8 v1 ps.length (flatE ps) → (∀ k, v1.ownBlock = some k → w.heap.size ≤ k) → w3 = (w1.alloc (.cells #[v1] 59)).alloc (.cells (flatE (List.replicate ps.length zq)).toArray 38) →
      OrdW w o c c2 w1.heap.size ps w3 (.slice (some ⟨w1.heap.size + 1, 0, none⟩) 0 ps.length) 0 := fun w1 w3 v1 hb1 hr1 hk1 e3 => by
    have m1 : Mv [c, c2] w o w1 (newTo o w c) := Mv.of_below c hb1
    have m2 : Mv [c, c2] w1 (newTo o w c) (w1.alloc (.cells #[v1] 59)) (newTo (newTo o w c) w1 c) := Mv.of_below c (balloc (Below.refl _ _) _)
    have m3 : Mv [c, c2] (w1.alloc (.cells #[v1] 59)) (newTo (newTo o w c) w1 c) w3 (newTo (newTo (newTo o w c) w1 c) (w1.alloc (.cells #[v1] 59)) c2) := by rw [e3]; exact Mv.of_below c2 (balloc (Below.refl _ _) _)
    have hs2 : (w1.alloc (.cells #[v1] 59)).heap.size = w1.heap.size + 1 := by simp
    have X2 := blk_new w1 [v1] 59
    have M := (m1.trans m2).trans m3
    have M0 : Mv [] w o w3 (newTo (newTo (newTo o w c) w1 c) (w1.alloc (.cells #[v1] 59)) c2) := by rw [e3]; exact ((Mv.of_below c hb1).trans (Mv.of_below c (balloc (Below.refl _ _) _))).trans (Mv.of_below c2 (balloc (Below.refl _ _) _))
    refine ⟨_, [], ps, v1, ⟨?_, ?_, ?_, fun k hk => ?_, h.ents.mv M0 (by simp)⟩, ⟨?_, fun k hk => ?_, Ents.nil _ _⟩, M, rfl, ⟨by simp, HH.out, List.Pairwise.nil, fun p hp => by cases hp⟩⟩
    · rw [e3]; exact X2.alloc _
    · rw [e3]; exact (hr1.alloc _).alloc _
    · rw [newTo_old (by omega), newTo_new (Nat.le_refl _)]
    · have := (hr1.lt k hk).2
      have h9 := hk1 k hk
      exact ⟨by rw [newTo_old (by omega), newTo_old this, newTo_new h9], by omega⟩
    · rw [e3]
      have := out_made (w1.alloc (.cells #[v1] 59)) ps.length (by omega)
      rw [hs2] at this
      exact this
    · simp [Value.ownBlock] at hk
      subst hk
      have := hb1.size
      exact ⟨newTo_new (by omega), by omega⟩
  have HST : Hid (_) := ST
  have HCF : Hid (∀ k, k < w.heap.size → o k ∉ [c, c2]) := fun k hk => by
    have := hcf k hk
    have := hdf k hk
    simp
    omega
  obtain ⟨av, cv, hvv⟩ := h.rowE.len
  subst hvv
  clear h CL ST hH hcf hdf
  generalize pre.length = po at *
  go_enter Try.func38, Try.ntmps38
  go_wp2_with (first
    | (go_at_call 50; go_must (refine HCL.out.mono ?_; rintro r w1 ⟨v1, rfl, hr1, hk1, hb1⟩; obtain ⟨a1, c1, hv1, _⟩ := slice_of_own hr1; subst hv1; have HS1 := HST.out w1 _ _ hb1 hr1 hk1 rfl; have HS : Hid (OrdW w o c c2 w1.heap.size ps _ _ 0) := HS1; have hmk := make_out (w1.alloc (.cells #[.slice a1 ps.length c1] 59)) ps.length (by omega); clear hr1 hk1 hb1 HS1))
    | (go_at_call 27; go_must (refine (len_any _ _ _ _).mono ?_; rintro r w2 ⟨rfl, hw2⟩; replace hw2 := hw2.symm; subst hw2)))
  generalize w1.heap.size = bR at *
  clear HST HCL hc0 hmk
  go_loopw [4] (fun ov wr => ∃ (a : Option Addr) (n cc : Nat), ov = .slice a n cc ∧ n ≤ ps.length ∧ Hid (OrdW w o c c2 bR ps wr ov n)) (fun ov _ => ps.length - slLen ov)
  case atStart => exact ⟨_, _, _, rfl, by omega, HS⟩
  case round =>
    obtain ⟨a4, n, cc, rfl, hn, HI⟩ := hrel
    obtain ⟨o', outs, qs, vq, hQ, hO, hM, hln, hS⟩ := HI.out
    have hlen := hS.len
    have hcell : wr.cell? ⟨bR, 0, none⟩ = some vq := hQ.cell
    obtain ⟨aq, cq, hvq, hcq⟩ := slice_of_own hQ.row
    subst hvq
    cases qs with
    | nil =>
      have HE : Hid (∃ rs, InOrd ps rs ∧ wr.ownsRow 0 38 8 (.slice a4 n cc) rs.length (flatE rs) ∧ (∀ k, (Value.slice a4 n cc).ownBlock = some k → w.heap.size ≤ k) ∧ Below w.heap.size w wr) := ⟨outs, hS.done, hO.row, fun k hk => (hO.own k hk).2, hM.below (Nat.le_refl _) HCF.out⟩
      clear HI hQ hO hM hS HS
      simp only [List.length_nil] at hcell
      go_wp2_with (go_at_call 27; go_must (refine (len_any _ _ _ _).mono ?_; rintro r w2 ⟨rfl, hw2⟩; replace hw2 := hw2.symm; subst hw2))
      go_ret
      exact ⟨_, rfl, HE.out⟩
    | cons q qs =>
      have PO : Calls Try.prog 51 #[hp bR 0] wr fun r w' => r = .returned (.iface 38 (ev q.1 q.2)) ∧ QMoved wr o' w' c bR 59 [] (HeapedBut (q :: qs) q) := hpop_any hQ (by omega) rfl (by rw [List.length_cons] at hlen ⊢; omega) hS.heap
      have HPO : Hid (Calls _ _ _ _ _) := PO
      have hqq := hQ.ents q (by simp)
      have AD := fun (w2 w5 : World) (o2 : Nat → Nat) (v' : Value) (m : Mv [c] wr o' w2 o2) ob h5 h6 h7 => (hO.mv m (by simp; omega) (by simp; omega)).add (w5 := w5) (v' := v') (by omega) (Nat.le_trans hM.size m.size) hqq.1 (hqq.2.mv m (by simp; omega)) ob h5 h6 h7
      have OW := fun (w2 : World) (o2 : Nat → Nat) (m : Mv [c] wr o' w2 o2) => (hO.mv m (by simp; omega) (by simp; omega)).row
      have R1 := fun (w' : World) => rowE_one w' q.1 q.2
      have O1 : ∀ u ∈ flatE [(q.1, q.2)], u.oneCell' = true := (ents_one hqq.1 hqq.2).one
      have FI : ∀ (w2 w5 : World) (o2 : Nat → Nat) (v' : Value), QMoved wr o' w2 c bR 59 [] (HeapedBut (q :: qs) q) → (∀ o2, Mv [c] wr o' w2 o2 → ∃ o5, OutAt w5 o5 c2 w.heap.size v' (outs ++ [(q.1, q.2)]) ∧ Mv [c2] w2 o2 w5 o5) → OrdW w o c c2 bR ps w5 v' (n + 1) := fun w2 w5 o2 v' hm ha => by
        obtain ⟨o2, qs2, hq2, m2, hb2⟩ := hm
        obtain ⟨o5, ho5, m5⟩ := ha o2 m2
        obtain ⟨v5, hq5⟩ := hq2.mv m5 (by simp; omega) (by simp; omega)
        exact ⟨o5, outs ++ [(q.1, q.2)], qs2, v5, hq5, ho5, (hM.trans (m2.widen (by simp))).trans (m5.widen (by simp)), by simp [hln], hS.step rfl hb2⟩
      have HM2 : Hid (∀ w2, QMoved wr o' w2 c bR 59 [] (HeapedBut (q :: qs) q) → ∃ o2, Mv [c] wr o' w2 o2) := fun w2 hm => by
        obtain ⟨o2, qs2, hq2, m2, hb2⟩ := hm
        exact ⟨o2, m2⟩
      have hQs : 0 < (q :: qs).length := by simp
      have HLn : Hid (outs.length = n) := hln
      have hlen2 : n + (q :: qs).length = ps.length := by rw [← hln]; exact hlen
      obtain ⟨e, x⟩ := q
      dsimp only at *
      obtain ⟨ax, cx, hxx⟩ := hqq.2.1.len
      subst hxx
      obtain ⟨ew, ei, ep, et, eu, en, eb, eg⟩ := e
      unfold ev at HPO
      dsimp only at *
      have HAD : Hid (_) := AD
      have HOW : Hid (_) := OW
      have HR1 : Hid (_) := R1
      have HO1 : Hid (_) := O1
      have HFI : Hid (_) := FI
      clear HI hQ hO hM hS HS PO AD OW R1 O1 FI hqq hlen hln
      generalize (((⟨ew, ei, ep, et, eu, en, eb, eg⟩ : Ent), (.slice ax eb.length cx : Value)) :: qs).length = qn at *
      go_wp2_with (first
        | (go_at_call 27; go_must (refine (len_any _ _ _ _).mono ?_; rintro r w2 ⟨rfl, hw2⟩; replace hw2 := hw2.symm; subst hw2))
        | (go_at_call 51; go_must (refine HPO.out.mono ?_; rintro r w2 ⟨rfl, hm2⟩; have HMv := HM2.out w2 hm2; obtain ⟨o2, m2⟩ := HMv; have HQ2 : Hid (QMoved wr o' w2 c bR 59 [] (HeapedBut _ _)) := hm2; have HMM : Hid (Mv [c] wr o' w2 o2) := m2; have HRow : Hid (w2.ownsRow 0 38 8 (.slice a4 n cc) outs.length (flatE outs)) := HOW.out w2 o2 m2; clear hm2 m2))
        | (at_builtin; go_must (refine wpList_append_ents rfl (.tmp 19) (.tmp 23) rfl _ outs rfl (HRow.out.alloc _) _ _ rfl (HR1.out w2) HO1.out (by have := HLn.out; simp; omega) ?_; intro v' w5 hr5 hg5 hw5; have HW5 := HFI.out w2 w5 o2 v' HQ2.out (fun o2' m' => HAD.out w2 w5 o2' v' m' _ hg5 hr5 hw5); obtain ⟨a5, c5, hv5, _⟩ := slice_of_own hr5; have HN5 : Hid ((outs ++ [((⟨ew, ei, ep, et, eu, en, eb, eg⟩ : Ent), (.slice ax eb.length cx : Value))]).length = n + 1) := (show _ = _ from by have := HLn.out; simp [this]); rw [HN5.out] at hv5; subst hv5; have HW : Hid (OrdW w o c c2 bR ps w5 (.slice a5 (n + 1) c5) (n + 1)) := HW5; clear HW5 hr5 hg5 hw5)))
      go_roundw
      case rel => exact ⟨_, _, _, rfl, by omega, HW⟩
      case measure => simp [slLen]; omega
end Go.Proofs.Ytigfklcclfpcjaa
