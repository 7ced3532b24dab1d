/-
  The reference's Unwrap answers as the plain oracle does; what stays of a plain oracle through each call (Fine).
  Epochs by lists: a ring, what Learn makes of it (program and reference), what Begin tells; both rings stay alike.
  Classes and sizes of the program (bucket).
-/
import Derived.Test.YtjbpfhnagiacmaaGreatRefOpen
import Derived.Test.YtjbpfhnagiacmaaGreatRefSeal
import Derived.Test.YtjbpfhnagiacmaaGreatRowsF
import Derived.Test.YtjbpfhnagiacmaaGreatRef
namespace Go.Proofs.YtjbpfhnagiacmaaGreat
section
set_option linter.unusedVariables false
set_option synthInstance.maxSize 20000
open Classical
open Go.RowKit Go.Maps
set_option maxHeartbeats 2000000 in
set_option maxRecDepth 20000 in
theorem runwrap_any (W : WS) (w : World) (r : Nat) (fr : List Nat) (S : St) (h : RefAt W w r fr S) (hf : Fine S) (s : Int) (v : Value) (l : List Int) (hv : Rd w v l) :
    Calls Tryz.prog 73 #[ptr r, .int .u64 s, v] w fun e w' => e = .returned (.tuple #[.int .u64 (S.unwrap s l).1, .int .i64 (S.unwrap s l).2]) ∧ Below w.heap.size w w' := by
  have HA : Hid (RefAt W w r fr S) := h
  have HV : Hid (Rd w v l) := hv
  have hgood := h.good
  have ho := hv.oct
  obtain ⟨av, cv, rfl⟩ := hv.len
  obtain ⟨hcap, hcap1, hcap2⟩ := hv.cap
  clear h hv hcap
  obtain ⟨g, hg⟩ : ∃ g, refHandle l = g := ⟨_, rfl⟩
  have HG : Hid (refHandle l = g) := hg
  rcases (notkind : (∀ x, S.at (refHandle l) = some x → kindOf x ≠ 7) ∨ _) with hp | ⟨x, hp, hk⟩
  · rw [unwrap_no hp]
    rw [hg] at hp
    have HP : Hid (∀ x, S.at g = some x → kindOf x ≠ 7) := hp
    clear hp hg hgood ho hf
    go_enter Tryz.func73, Tryz.ntmps73
    go_wp2_with (first
      | (go_at_call 86; go_must (refine (handle_any _ l w HV.out).mono ?_; rw [HG.out]; rintro e wz ⟨rfl, hwz⟩; replace hwz := hwz.symm; subst hwz))
      | (go_at_call 78; go_must (refine (ris_no W w r fr S HA.out g 7 HP.out).mono ?_; rintro e w0 ⟨rfl, hb0⟩)))
    go_ret2
    exact ⟨rfl, balloc hb0 _⟩
  · obtain ⟨s', k, p, rfl⟩ := kind7 hk
    have hun := unwrap_yes hgood ho hp s
    have HP : Hid (S.at p = some (.pub s')) := hf.wraps _ _ _ _ (at_some hp)
    rw [hg] at hp
    have HS : Hid (S.at g = some (.wrap s' k p)) := hp
    rw [hun]
    clear hp hg hk hun hgood ho hf
    by_cases hl : l.length = 16
    · rw [if_pos hl]
      have hl1 : (l.length : Int) = 16 := by omega
      have hl2 : ((l.length : Int) != 16) = false := by simpa using hl1
      clear hl hl1
      by_cases hk : s' = s
      · rw [if_pos hk]
        subst hk
        go_enter Tryz.func73, Tryz.ntmps73
        go_upto_region 2 with (first
          | (go_at_call 86; go_must (refine (handle_any _ l w HV.out).mono ?_; rw [HG.out]; rintro e wz ⟨rfl, hwz⟩; replace hwz := hwz.symm; subst hwz))
          | (go_at_call 78; go_must (refine (ris_yes W w r fr S HA.out g 7 (.wrap s' k p) HS.out rfl).mono ?_; dsimp only [aOf, bOf, nOf, mOf, List.length_nil]; rintro e w0 ⟨a1, c1, a2, c2, rfl, _, _, hb0⟩)))
        obtain ⟨w1, hw1⟩ : ∃ w1, w1 = w0.alloc (.cells #[.int .u64 g, .int .i64 7, .slice a1 0 c1, .slice a2 0 c2, .int .u64 p, .int .u64 k] 112) := ⟨_, rfl⟩
        have HB1 : Hid (Below w.heap.size w w1) := (by show Below _ _ _; rw [hw1]; exact balloc hb0 _)
        have Y1 : Hid (Blk w1 w0.heap.size 112 [.int .u64 g, .int .i64 7, .slice a1 0 c1, .slice a2 0 c2, .int .u64 p, .int .u64 k]) := (by show Blk _ _ _ _; rw [hw1]; exact heap_alloc_new w0 _)
        rw [← hw1]
        generalize w0.heap.size = ny at Y1 ⊢
        have y4 := Y1.out.cell 4 _ rfl
        clear hw1 hb0
        go_upto_region 5 with (go_at_call 78; go_must (refine (ris_yes W w1 r fr S (HA.out.below HB1.out) p 4 (.pub s') HP.out rfl).mono ?_; dsimp only [aOf, bOf, nOf, mOf, List.length_nil]; rintro e w2 ⟨z1, d1, z2, d2, rfl, _, _, hb2⟩))
        obtain ⟨w3, hw3⟩ : ∃ w3, w3 = w2.alloc (.cells #[.int .u64 p, .int .i64 4, .slice z1 0 d1, .slice z2 0 d2, .int .u64 s', .int .u64 0] 112) := ⟨_, rfl⟩
        have HB3 : Hid (Below w1.heap.size w1 w3) := (by show Below _ _ _; rw [hw3]; exact balloc hb2 _)
        have Z3 : Hid (Blk w3 w2.heap.size 112 [.int .u64 p, .int .i64 4, .slice z1 0 d1, .slice z2 0 d2, .int .u64 s', .int .u64 0]) := (by show Blk _ _ _ _; rw [hw3]; exact heap_alloc_new w2 _)
        rw [← hw3]
        generalize w2.heap.size = nz at Z3 ⊢
        have x5 := (Y1.out.below HB3.out).cell 5 _ rfl
        have x4 := Z3.out.cell 4 _ rfl
        clear hw3 hb2
        go_wp2
        go_ret2
        exact ⟨rfl, bnext HB1.out HB3.out⟩
      · rw [if_neg hk]
        have hk' : (s' != s) = true := by simpa using hk
        clear hk
        go_enter Tryz.func73, Tryz.ntmps73
        go_upto_region 2 with (first
          | (go_at_call 86; go_must (refine (handle_any _ l w HV.out).mono ?_; rw [HG.out]; rintro e wz ⟨rfl, hwz⟩; replace hwz := hwz.symm; subst hwz))
          | (go_at_call 78; go_must (refine (ris_yes W w r fr S HA.out g 7 (.wrap s' k p) HS.out rfl).mono ?_; dsimp only [aOf, bOf, nOf, mOf, List.length_nil]; rintro e w0 ⟨a1, c1, a2, c2, rfl, _, _, hb0⟩)))
        obtain ⟨w1, hw1⟩ : ∃ w1, w1 = w0.alloc (.cells #[.int .u64 g, .int .i64 7, .slice a1 0 c1, .slice a2 0 c2, .int .u64 p, .int .u64 k] 112) := ⟨_, rfl⟩
        have HB1 : Hid (Below w.heap.size w w1) := (by show Below _ _ _; rw [hw1]; exact balloc hb0 _)
        have Y1 : Hid (Blk w1 w0.heap.size 112 [.int .u64 g, .int .i64 7, .slice a1 0 c1, .slice a2 0 c2, .int .u64 p, .int .u64 k]) := (by show Blk _ _ _ _; rw [hw1]; exact heap_alloc_new w0 _)
        rw [← hw1]
        generalize w0.heap.size = ny at Y1 ⊢
        have y4 := Y1.out.cell 4 _ rfl
        clear hw1 hb0
        go_upto_region 5 with (go_at_call 78; go_must (refine (ris_yes W w1 r fr S (HA.out.below HB1.out) p 4 (.pub s') HP.out rfl).mono ?_; dsimp only [aOf, bOf, nOf, mOf, List.length_nil]; rintro e w2 ⟨z1, d1, z2, d2, rfl, _, _, hb2⟩))
        obtain ⟨w3, hw3⟩ : ∃ w3, w3 = w2.alloc (.cells #[.int .u64 p, .int .i64 4, .slice z1 0 d1, .slice z2 0 d2, .int .u64 s', .int .u64 0] 112) := ⟨_, rfl⟩
        have HB3 : Hid (Below w1.heap.size w1 w3) := (by show Below _ _ _; rw [hw3]; exact balloc hb2 _)
        have Z3 : Hid (Blk w3 w2.heap.size 112 [.int .u64 p, .int .i64 4, .slice z1 0 d1, .slice z2 0 d2, .int .u64 s', .int .u64 0]) := (by show Blk _ _ _ _; rw [hw3]; exact heap_alloc_new w2 _)
        rw [← hw3]
        generalize w2.heap.size = nz at Z3 ⊢
        have x5 := (Y1.out.below HB3.out).cell 5 _ rfl
        have x4 := Z3.out.cell 4 _ rfl
        clear hw3 hb2
        go_wp2
        go_ret2
        exact ⟨rfl, bnext HB1.out HB3.out⟩
    · rw [if_neg hl]
      have hl1 : ¬ (l.length : Int) = 16 := by omega
      have hl2 : ((l.length : Int) != 16) = true := by simpa using hl1
      clear hl hl1
      go_enter Tryz.func73, Tryz.ntmps73
      go_upto_region 2 with (first
        | (go_at_call 86; go_must (refine (handle_any _ l w HV.out).mono ?_; rw [HG.out]; rintro e wz ⟨rfl, hwz⟩; replace hwz := hwz.symm; subst hwz))
        | (go_at_call 78; go_must (refine (ris_yes W w r fr S HA.out g 7 (.wrap s' k p) HS.out rfl).mono ?_; dsimp only [aOf, bOf, nOf, mOf, List.length_nil]; rintro e w0 ⟨a1, c1, a2, c2, rfl, _, _, hb0⟩)))
      obtain ⟨w1, hw1⟩ : ∃ w1, w1 = w0.alloc (.cells #[.int .u64 g, .int .i64 7, .slice a1 0 c1, .slice a2 0 c2, .int .u64 p, .int .u64 k] 112) := ⟨_, rfl⟩
      have HB1 : Hid (Below w.heap.size w w1) := (by show Below _ _ _; rw [hw1]; exact balloc hb0 _)
      have Y1 : Hid (Blk w1 w0.heap.size 112 [.int .u64 g, .int .i64 7, .slice a1 0 c1, .slice a2 0 c2, .int .u64 p, .int .u64 k]) := (by show Blk _ _ _ _; rw [hw1]; exact heap_alloc_new w0 _)
      rw [← hw1]
      generalize w0.heap.size = ny at Y1 ⊢
      have y4 := Y1.out.cell 4 _ rfl
      clear hw1 hb0
      go_wp2
      go_ret2
      exact ⟨rfl, HB1.out⟩
/-! ### what stays -/
theorem Fine.seal {S : St} (hf : Fine S) (hg : Good S) (hN : S.rows.length < 1000000000) (k : Int) (b p : List Int) : Fine (S.seal k b p).2 := by
  unfold St.seal
  split
  · split
    · exact hf
    · exact hf.put hg hN (fun _ _ e => by cases e) (fun _ _ _ e => by cases e)
  · exact hf
theorem Fine.wrap {S : St} (hf : Fine S) (hg : Good S) (hN : S.rows.length < 1000000000) (p k : Int) : Fine (S.wrap p k).2 := by
  unfold St.wrap
  split
  · rename_i s hp
    split
    · exact hf.put hg hN (fun _ _ e => by cases e) (fun s' k' p' e => by cases e; exact hp)
    · exact hf
  · exact hf
end
section
set_option linter.unusedVariables false
set_option linter.unusedSimpArgs false
set_option synthInstance.maxSize 20000
set_option maxHeartbeats 2000000
set_option maxRecDepth 20000
open Go.RowKit Go.Maps
structure Rg where
  w : Int
  s : Int
  ks : List Int
  os : List (List Int)
def unwM (S : St) (who sec : Int) (ws : List Wp) : Int × Int := match ws.find? (fun x => decide (x.w = who)) with
  | none => (0, 11)
  | some x => S.unwrap sec x.b
def aheadM (S : St) (k : Int) (e : Nat) (o : List Int) : Int :=
  if (S.open k (form e) o).2 = 0 ∧ (S.open k (form e) o).1.length = 8 then ofBe8 (S.open k (form e) o).1 else 0
def backF (S : St) (os : List (List Int)) : Nat → List Int → List Int
  | 0, ks => ks
  | e + 1, ks => if ks.getD (e + 1) 0 ≠ 0 ∧ ks.getD e 0 = 0 then backF S os e (ks.set e (aheadM S (ks.getD (e + 1) 0) (e + 1) (os.getD (e + 1) []))) else ks
def learnG (S : St) (r : Rg) (c : Cg) (os' : List Int → List (List Int) → List (List Int)) : Rg × Int :=
  if rightB c = true ∧ c.k = 3 then
    if 20 ≤ r.ks.length then (r, 3)
    else (⟨r.w, r.s, backF S (r.os ++ [c.o]) r.ks.length (r.ks ++ [(unwM S r.w r.s c.ws).1]), os' (r.ks ++ [(unwM S r.w r.s c.ws).1]) (r.os ++ [c.o])⟩, (unwM S r.w r.s c.ws).2)
  else (r, 1)
def struck (ks : List Int) (os : List (List Int)) : List (List Int) := if ks.getD (ks.length - 1) 0 = 0 then os else List.replicate os.length []
def learnP (S : St) (r : Rg) (c : Cg) : Rg × Int := learnG S r c struck
def learnR (S : St) (r : Rg) (c : Cg) : Rg × Int := learnG S r c (fun _ os => os)
theorem backF_length (S : St) (os : List (List Int)) : ∀ (e : Nat) (ks : List Int), (backF S os e ks).length = ks.length
  | 0, ks => rfl
  | e + 1, ks => by
    unfold backF
    split
    · rw [backF_length S os e]; simp
    · rfl
theorem backF_go {S : St} {os : List (List Int)} {e : Nat} {ks : List Int} (h1 : ks.getD (e + 1) 0 ≠ 0) (h2 : ks.getD e 0 = 0) : backF S os (e + 1) ks = backF S os e (ks.set e (aheadM S (ks.getD (e + 1) 0) (e + 1) (os.getD (e + 1) []))) := by
  rw [backF, if_pos ⟨h1, h2⟩]
theorem backF_no {S : St} {os : List (List Int)} {e : Nat} {ks : List Int} (h : ¬ (ks.getD (e + 1) 0 ≠ 0 ∧ ks.getD e 0 = 0)) : backF S os (e + 1) ks = ks := by
  rw [backF, if_neg h]
theorem backF_zero {S : St} {os : List (List Int)} {e : Nat} {ks : List Int} (h : ks.getD e 0 = 0) : backF S os e ks = ks := by
  cases e with
  | zero => rfl
  | succ e => exact backF_no (fun k => k.1 h)
theorem set_self {ks : List Int} {e : Nat} (h : ks.getD e 0 = 0) : ks.set e 0 = ks := by
  apply List.ext_getElem?
  intro j
  rw [List.getElem?_set]
  split
  · rename_i ej
    subst ej
    split
    · rename_i hl
      rw [List.getD_eq_getElem?_getD, List.getElem?_eq_getElem hl] at h
      rw [List.getElem?_eq_getElem hl]
      simpa using h.symm
    · rename_i hl
      rw [List.getElem?_eq_none (by omega)]
  · rfl
theorem backF_stop {S : St} {os : List (List Int)} {e : Nat} {ks : List Int} (h1 : ks.getD (e + 1) 0 ≠ 0) (h2 : ks.getD e 0 = 0) (h3 : aheadM S (ks.getD (e + 1) 0) (e + 1) (os.getD (e + 1) []) = 0) : backF S os (e + 1) ks = ks := by
  rw [backF_go h1 h2, h3, set_self h2, backF_zero h2]
theorem backF_alike {S : St} {oa ob : List (List Int)} {m : Nat} (h : ∀ e, m ≤ e → oa.getD e [] = ob.getD e []) : ∀ (e : Nat) (ks : List Int), (0 < m → ks.getD (m - 1) 0 ≠ 0) → m ≤ e → backF S oa e ks = backF S ob e ks
  | 0, ks, _, _ => rfl
  | e + 1, ks, hm, he => by
    by_cases hc : ks.getD (e + 1) 0 ≠ 0 ∧ ks.getD e 0 = 0
    · have hne : m ≤ e := by
        apply Nat.le_of_not_lt
        intro hlt
        have q : m = e + 1 := by omega
        subst q
        exact hm (by omega) hc.2
      rw [backF_go hc.1 hc.2, backF_go hc.1 hc.2, h (e + 1) he]
      refine backF_alike h e _ (fun h0 => ?_) hne
      rw [List.getD_eq_getElem?_getD, List.getElem?_set_ne (by omega), ← List.getD_eq_getElem?_getD]
      exact hm h0
    · rw [backF_no hc, backF_no hc]
theorem backF_keeps (S : St) (os : List (List Int)) : ∀ (e : Nat) (ks : List Int) (j : Nat), ks.getD j 0 ≠ 0 → (backF S os e ks).getD j 0 = ks.getD j 0
  | 0, ks, j, _ => rfl
  | e + 1, ks, j, hj => by
    by_cases hc : ks.getD (e + 1) 0 ≠ 0 ∧ ks.getD e 0 = 0
    · have hne : e ≠ j := fun q => hj (q ▸ hc.2)
      have h1 : (ks.set e (aheadM S (ks.getD (e + 1) 0) (e + 1) (os.getD (e + 1) []))).getD j 0 = ks.getD j 0 := by
        rw [List.getD_eq_getElem?_getD, List.getElem?_set_ne hne, ← List.getD_eq_getElem?_getD]
      rw [backF_go hc.1 hc.2, backF_keeps S os e _ j (by rw [h1]; exact hj), h1]
    · rw [backF_no hc]
theorem getD_snoc (ks : List Int) (x : Int) : (ks ++ [x]).getD ks.length 0 = x := by simp
theorem getD_left {ks : List Int} {x : Int} {j : Nat} (h : j < ks.length) : (ks ++ [x]).getD j 0 = ks.getD j 0 := by
  rw [List.getD_eq_getElem?_getD, List.getElem?_append_left h, ← List.getD_eq_getElem?_getD]
structure RRel (P R : Rg) : Prop where
  w : P.w = R.w
  s : P.s = R.s
  ks : P.ks = R.ks
  pl : P.os.length = P.ks.length
  rl : R.os.length = R.ks.length
  os : ∃ m, m ≤ P.ks.length ∧ (∀ e, m ≤ e → P.os.getD e [] = R.os.getD e []) ∧ (0 < m → P.ks.getD (m - 1) 0 ≠ 0)
theorem getD_snoc2 {oa ob : List (List Int)} {x : List Int} {m : Nat} (hl : oa.length = ob.length) (h : ∀ e, m ≤ e → oa.getD e [] = ob.getD e []) : ∀ e, m ≤ e → (oa ++ [x]).getD e [] = (ob ++ [x]).getD e [] := fun e he => by
  by_cases h1 : e < oa.length
  · have := h e he
    simp only [List.getD_eq_getElem?_getD] at this ⊢
    rw [List.getElem?_append_left h1, List.getElem?_append_left (by omega)]
    exact this
  · simp only [List.getD_eq_getElem?_getD]
    rw [List.getElem?_append_right (by omega), List.getElem?_append_right (by omega), hl]
theorem learn_rel {S : St} {P R : Rg} (h : RRel P R) (c : Cg) : (learnP S P c).2 = (learnR S R c).2 ∧ RRel (learnP S P c).1 (learnR S R c).1 := by
  obtain ⟨hw, hs, hk, hpl, hrl, m, hm, hos, hz⟩ := h
  obtain ⟨pw, ps, pk, po⟩ := P
  obtain ⟨rw', rs, rk, ro⟩ := R
  dsimp only at hw hs hk hpl hrl hm hos hz
  subst hw hs hk
  unfold learnP learnR learnG
  by_cases hr : rightB c = true ∧ c.k = 3
  · rw [if_pos hr, if_pos hr]
    dsimp only
    by_cases h20 : 20 ≤ pk.length
    · rw [if_pos h20, if_pos h20]
      exact ⟨rfl, rfl, rfl, rfl, hpl, hrl, m, hm, hos, hz⟩
    · rw [if_neg h20, if_neg h20]
      refine ⟨rfl, ?_⟩
      generalize (unwM S pw ps c.ws).1 = x
      have hol : po.length = ro.length := by omega
      have ho2 := getD_snoc2 (x := c.o) hol hos
      have hz2 : 0 < m → (pk ++ [x]).getD (m - 1) 0 ≠ 0 := fun h0 => by rw [getD_left (by omega)]; exact hz h0
      have hb := backF_alike (S := S) ho2 pk.length (pk ++ [x]) hz2 hm
      refine ⟨rfl, rfl, hb, ?_, ?_, ?_⟩
      · dsimp only
        rw [backF_length]
        unfold struck
        split <;> simp [hpl]
      · dsimp only
        rw [backF_length]
        simp [hrl]
      · dsimp only
        rw [backF_length]
        unfold struck
        simp only [List.length_append, List.length_singleton, Nat.add_sub_cancel]
        rw [getD_snoc]
        by_cases hx : x = 0
        · rw [if_pos hx]
          refine ⟨m, by omega, ho2, fun h0 => ?_⟩
          rw [backF_keeps S _ _ _ _ (hz2 h0)]
          exact hz2 h0
        · rw [if_neg hx]
          refine ⟨pk.length + 1, Nat.le_refl _, fun e he => ?_, fun _ => ?_⟩
          · simp only [List.getD_eq_getElem?_getD]
            rw [List.getElem?_eq_none (by simp; omega), List.getElem?_eq_none (by simp; omega)]
          · have h1 : (pk ++ [x]).getD pk.length 0 ≠ 0 := by rw [getD_snoc]; exact hx
            rw [Nat.add_sub_cancel, backF_keeps S _ _ _ _ h1]
            exact h1
  · rw [if_neg hr, if_neg hr]
    exact ⟨rfl, rfl, rfl, rfl, hpl, hrl, m, hm, hos, hz⟩
/-! ### Begin -/
def wrapF (key : Int) : List Mb → St → St × List Wp × Int
  | [], S => (S, [], 0)
  | m :: l, S => if (S.wrap m.p key).1.2 = 0 then (if (wrapF key l (S.wrap m.p key).2).2.2 = 0 then ((wrapF key l (S.wrap m.p key).2).1, ⟨m.w, (S.wrap m.p key).1.1⟩ :: (wrapF key l (S.wrap m.p key).2).2.1, 0) else ((wrapF key l (S.wrap m.p key).2).1, [], (wrapF key l (S.wrap m.p key).2).2.2)) else ((S.wrap m.p key).2, [], (S.wrap m.p key).1.2)
theorem wrapF_snoc {key : Int} {m : Mb} : ∀ (a : List Mb) (S : St), wrapF key (a ++ [m]) S = if (wrapF key a S).2.2 = 0 then (if ((wrapF key a S).1.wrap m.p key).1.2 = 0 then (((wrapF key a S).1.wrap m.p key).2, (wrapF key a S).2.1 ++ [⟨m.w, ((wrapF key a S).1.wrap m.p key).1.1⟩], 0) else (((wrapF key a S).1.wrap m.p key).2, [], ((wrapF key a S).1.wrap m.p key).1.2)) else wrapF key a S
  | [], S => by
    by_cases h1 : (S.wrap m.p key).1.2 = 0 <;> simp [wrapF, h1]
  | x :: a, S => by
    rw [List.cons_append, wrapF, wrapF_snoc a, wrapF]
    by_cases h1 : (S.wrap x.p key).1.2 = 0
    · rw [if_pos h1, if_pos h1]
      by_cases h2 : (wrapF key a (S.wrap x.p key).2).2.2 = 0
      · rw [if_pos h2, if_pos h2]
        by_cases h3 : ((wrapF key a (S.wrap x.p key).2).1.wrap m.p key).1.2 = 0
        · simp [h3]
        · simp [h3]
      · rw [if_neg h2, if_neg h2]
        simp [h2]
    · rw [if_neg h1, if_neg h1]
      simp [h1]
theorem wrapF_stop {key : Int} {S : St} : ∀ (b a : List Mb), (wrapF key a S).2.2 ≠ 0 → wrapF key (a ++ b) S = wrapF key a S
  | [], a, h => by rw [List.append_nil]
  | x :: b, a, h => by
    have h1 : wrapF key (a ++ [x]) S = wrapF key a S := by rw [wrapF_snoc, if_neg h]
    have := wrapF_stop b (a ++ [x]) (by rw [h1]; exact h)
    rw [List.append_assoc] at this
    rw [show a ++ x :: b = a ++ ([x] ++ b) by simp, this, h1]
structure Bg where
  k : Int
  key : Int
  ws : List Wp
  o : List Int
  S : St
def oldM (S : St) (key e last : Int) : List Int × St := if e = -1 then ([], S) else ((S.seal key (form (e + 1).toNat) (be8 last)).1.1, (S.seal key (form (e + 1).toNat) (be8 last)).2)
def beginM (S : St) (l : List Mb) (e last : Int) : Bg :=
  if nowM l = [] then ⟨10, 0, [], [], S.put .key⟩
  else if (wrapF S.fresh (nowM l) (S.put .key)).2.2 = 0 then ⟨0, S.fresh, (wrapF S.fresh (nowM l) (S.put .key)).2.1, (oldM (wrapF S.fresh (nowM l) (S.put .key)).1 S.fresh e last).1, (oldM (wrapF S.fresh (nowM l) (S.put .key)).1 S.fresh e last).2⟩
  else ⟨(wrapF S.fresh (nowM l) (S.put .key)).2.2, 0, [], [], (wrapF S.fresh (nowM l) (S.put .key)).1⟩
def Bg.c (b : Bg) : Cg := if b.k = 0 then ⟨3, 0, 0, 0, b.ws, b.o⟩ else ⟨0, 0, 0, 0, [], []⟩
structure Ora (S : St) (n : Nat) : Prop where
  good : Good S
  fine : Fine S
  small : ∀ h k b p, (h, What.seal k b p) ∈ S.rows → p.length ≤ 1000000
  len : S.rows.length ≤ n
theorem Ora.le {S : St} {n m : Nat} (h : Ora S n) (hm : n ≤ m) : Ora S m := ⟨h.good, h.fine, h.small, Nat.le_trans h.len hm⟩
theorem Ora.find {S : St} {n : Nat} (h : Ora S n) (l : List Int) : ∀ k b p, S.find l = some (.seal k b p) → p.length ≤ 1000000 := fun k b p e => by
  unfold St.find at e
  split at e
  · exact h.small _ k b p (at_some e)
  · cases e
theorem Ora.put {S : St} {n : Nat} (h : Ora S n) (hn : n ≤ 90000) {x : What} (hx : WhatOk x) (hs : ∀ s b, x = .sig s b → S.of (.sig s b) = none) (hw : ∀ s k p, x = .wrap s k p → S.at p = some (.pub s)) (hl : ∀ k b p, x = .seal k b p → p.length ≤ 1000000) : Ora (S.put x) (n + 1) := by
  have hN : S.rows.length < 1000000000 := by have := h.len; omega
  refine ⟨put_good h.good hN hx, h.fine.put h.good hN hs hw, fun g k b p e => ?_, by rw [put_len]; have := h.len; omega⟩
  rw [put_rows] at e
  rcases List.mem_append.1 e with r | r
  · exact h.small g k b p r
  · simp at r
    exact hl k b p r.2.symm
theorem Ora.key {S : St} {n : Nat} (h : Ora S n) (hn : n ≤ 90000) : Ora (S.put .key) (n + 1) := h.put hn trivial (fun _ _ e => by cases e) (fun _ _ _ e => by cases e) (fun _ _ _ e => by cases e)
theorem Ora.pair {S : St} {n : Nat} (h : Ora S n) (hn : n ≤ 80000) : Ora S.pair (n + 2) := by
  unfold St.pair
  have hN : S.rows.length < 1000000000 := by have := h.len; omega
  have h1 : Ora (S.put .secret) (n + 1) := h.put (by omega) trivial (fun _ _ e => by cases e) (fun _ _ _ e => by cases e) (fun _ _ _ e => by cases e)
  exact h1.put (by omega) (x := .pub S.fresh) (fresh_ok h.good hN).2.2.1 (fun _ _ e => by cases e) (fun _ _ _ e => by cases e) (fun _ _ _ e => by cases e)
theorem Ora.wrap {S : St} {n : Nat} (h : Ora S n) (hn : n ≤ 90000) (p k : Int) : Ora (S.wrap p k).2 (n + 1) := by
  unfold St.wrap
  split
  · rename_i s e
    split
    · rename_i hk
      refine h.put hn (x := .wrap s k p) ⟨(at_ok h.good e).2.2, (at_ok h.good hk).1, (at_ok h.good e).1⟩ (fun _ _ e => by cases e) (fun s' k' p' e' => ?_) (fun _ _ _ e => by cases e)
      cases e'
      exact e
    · exact h.le (by omega)
  · exact h.le (by omega)
theorem wrap_keeps {S : St} {n : Nat} (h : Ora S n) (hn : n ≤ 90000) (p k : Int) {g : Int} {x : What} (hg : S.at g = some x) : (S.wrap p k).2.at g = some x := by
  have hN : S.rows.length < 1000000000 := by have := h.len; omega
  unfold St.wrap
  split
  · split
    · exact at_put_old h.good hN hg
    · exact hg
  · exact hg
theorem wrapF_ora {key : Int} : ∀ (l : List Mb) {S : St} {n : Nat}, Ora S n → n + l.length ≤ 90000 → Ora (wrapF key l S).1 (n + l.length) ∧ ∀ g x, S.at g = some x → (wrapF key l S).1.at g = some x
  | [], S, n, h, _ => ⟨h, fun g x hg => hg⟩
  | m :: l, S, n, h, hn => by
    simp only [List.length_cons] at hn
    have h1 := h.wrap (by omega) m.p key
    obtain ⟨h2, h3⟩ := wrapF_ora (key := key) l h1 (by omega)
    have h4 := fun g x hg => wrap_keeps h (by omega) m.p key (g := g) (x := x) hg
    rw [wrapF]
    split
    · split
      · exact ⟨h2.le (by simp; omega), fun g x hg => h3 g x (h4 g x hg)⟩
      · exact ⟨h2.le (by simp; omega), fun g x hg => h3 g x (h4 g x hg)⟩
    · exact ⟨h1.le (by simp), h4⟩
theorem seal_key {S : St} {k : Int} (h : S.at k = some .key) (b : List Int) (x : Int) : S.seal k b (be8 x) = ((boxOf S.fresh 16, 0), S.put (.seal k b (be8 x))) := by
  unfold St.seal
  rw [if_pos h]
  rfl
end
section
set_option linter.unusedVariables false
open Go.RowKit
theorem bsize_any (c : Nat) (w : World) (hc : c < 7) : Calls Tryz.prog 88 #[.int .i64 c] w fun e w' => e = .returned (.int .i64 ((16 * 2 ^ c : Nat) : Int)) ∧ w' = w := by
  have h7 : c = 0 ∨ c = 1 ∨ c = 2 ∨ c = 3 ∨ c = 4 ∨ c = 5 ∨ c = 6 := by omega
  rcases h7 with rfl | rfl | rfl | rfl | rfl | rfl | rfl
  all_goals
    go_enter Tryz.func88, Tryz.ntmps88
    go_wp2
    go_ret
    exact ⟨rfl, rfl⟩
theorem known_any (c : Int) (w : World) : Calls Tryz.prog 87 #[.int .i64 c] w fun e w' => e = .returned (.bool (decide (0 ≤ c ∧ c < 7))) ∧ w' = w := by
  by_cases h0 : 0 ≤ c
  · by_cases h1 : c < 7
    · go_enter Tryz.func87, Tryz.ntmps87
      go_wp2
      go_ret
      exact ⟨by simp [h0, h1], rfl⟩
    · go_enter Tryz.func87, Tryz.ntmps87
      go_wp2
      go_ret
      exact ⟨by simp [h1], rfl⟩
  · go_enter Tryz.func87, Tryz.ntmps87
    go_wp2
    go_ret
    exact ⟨by simp; omega, rfl⟩
set_option maxHeartbeats 400000 in
theorem holds_any (c n : Nat) (w : World) (hc : c < 7) (hn : n ≤ 9223372036854775807) :
    Calls Tryz.prog 49 #[.int .i64 c, .int .i64 n] w fun e w' => e = .returned (.bool (decide (n ≤ roomOf c))) ∧ Below w.heap.size w w' := by
  have HF : Hid (n + (form n).length ≤ 16 * 2 ^ c ↔ n ≤ roomOf c) := fits c n hc
  have hs : 16 * 2 ^ c ≤ 1024 := by
    have h7 : c = 0 ∨ c = 1 ∨ c = 2 ∨ c = 3 ∨ c = 4 ∨ c = 5 ∨ c = 6 := by omega
    rcases h7 with rfl | rfl | rfl | rfl | rfl | rfl | rfl <;> simp
  have hf := form_le10 (n := n) (by omega)
  have HS : Hid (∀ w, Calls Tryz.prog 88 #[.int .i64 c] w fun e w' => e = .returned (.int .i64 ((16 * 2 ^ c : Nat) : Int)) ∧ w' = w) := fun w => bsize_any c w hc
  generalize 16 * 2 ^ c = s at *
  go_enter Tryz.func49, Tryz.ntmps49
  go_wp2_with (first | (go_at_call 88; go_must (refine (HS.out _).mono ?_; rintro e w1 ⟨rfl, rfl⟩)) | (go_at_call 90; go_must (refine (num0_any n _ (by omega)).mono ?_; rintro e w2 ⟨v2, rfl, hown, hb⟩; obtain ⟨a2, c2, rfl⟩ := hown.rd.len)))
  go_ret
  refine ⟨congrArg (fun b => Ending.returned (.bool b)) (decide_eq_decide.2 ?_), hb⟩
  rw [← HF.out]
  omega
set_option maxHeartbeats 400000 in
theorem first_any (n : Nat) (w : World) (hn : n ≤ 9223372036854775807) :
    Calls Tryz.prog 48 #[.int .i64 n, .func (.func 49) #[] #[]] w fun e w' => e = .returned (.int .i64 (cls n)) ∧ Below w.heap.size w w' := by
  go_enter Tryz.func48, Tryz.ntmps48
  go_wp2
  go_loopw [6] (fun i wr => ∃ c : Nat, c ≤ 7 ∧ i = .int .i64 c ∧ Hid (c = 0 ∨ roomOf (c - 1) < n) ∧ Below w.heap.size w wr) (fun i _ => 7 - (intOf i).toNat)
  case atStart => exact ⟨0, by omega, rfl, .inl rfl, Below.refl _ _⟩
  case round =>
    obtain ⟨c, hc, rfl, hr, hb⟩ := hrel
    have HB : Hid (Below w.heap.size w wr) := hb
    clear hb
    by_cases h7 : c < 7
    · by_cases hf : n ≤ roomOf c
      · go_wp2_with (go_at_call 49; go_must (refine (holds_any c n _ h7 hn).mono ?_; rintro e w1 ⟨rfl, hb1⟩; rw [decide_eq_true hf]))
        go_ret
        refine ⟨?_, bnext HB.out hb1⟩
        rw [cls_hit h7 hr.out hf]
        rfl
      · go_wp2_with (go_at_call 49; go_must (refine (holds_any c n _ h7 hn).mono ?_; rintro e w1 ⟨rfl, hb1⟩; rw [decide_eq_false hf]))
        go_roundw
        case rel => exact ⟨c + 1, by omega, by go_num, .inr (by simpa using hf), bnext HB.out hb1⟩
        case measure => simp [intOf]; omega
    · have : c = 7 := by omega
      subst this
      have hc6 : Hid (cls n = -1) := by
        have := hr.out
        simp [roomOf] at this
        exact cls_none this
      go_wp2
      go_ret
      refine ⟨?_, HB.out⟩
      rw [hc6.out]
      rfl
theorem class_any (n : Int) (w : World) (hn : n ≤ 9223372036854775807) :
    Calls Tryz.prog 19 #[.int .i64 n] w fun e w' => e = .returned (.int .i64 (clsI n)) ∧ Below w.heap.size w w' := by
  by_cases h : n < 0
  · go_enter Tryz.func19, Tryz.ntmps19
    go_wp2
    go_ret
    refine ⟨?_, Below.refl _ _⟩
    unfold clsI
    rw [if_pos h]
    rfl
  · obtain ⟨m, rfl⟩ := Int.eq_ofNat_of_zero_le (by omega : 0 ≤ n)
    go_enter Tryz.func19, Tryz.ntmps19
    go_wp2_with (go_at_call 48; go_must (refine (first_any m _ (by omega)).mono ?_; rintro e w1 ⟨rfl, hb1⟩))
    go_ret
    refine ⟨?_, hb1⟩
    rw [clsI_nat]
    rfl
theorem size_any (c : Int) (w : World) : Calls Tryz.prog 44 #[.int .i64 c] w fun e w' => e = .returned (.int .i64 (sizeI c)) ∧ w' = w := by
  by_cases h : 0 ≤ c ∧ c < 7
  · obtain ⟨m, rfl⟩ := Int.eq_ofNat_of_zero_le h.1
    go_enter Tryz.func44, Tryz.ntmps44
    go_wp2_with (first | (go_at_call 87; go_must (refine (known_any _ _).mono ?_; rintro e w1 ⟨rfl, rfl⟩; rw [decide_eq_true h])) | (go_at_call 88; go_must (refine (bsize_any m _ (by omega)).mono ?_; rintro e w1 ⟨rfl, rfl⟩)))
    go_ret
    refine ⟨?_, rfl⟩
    unfold sizeI
    rw [if_pos h]
    rfl
  · go_enter Tryz.func44, Tryz.ntmps44
    go_wp2_with (go_at_call 87; go_must (refine (known_any _ _).mono ?_; rintro e w1 ⟨rfl, rfl⟩; rw [decide_eq_false h]))
    go_ret
    refine ⟨?_, rfl⟩
    unfold sizeI
    rw [if_neg h]
    rfl
end
end Go.Proofs.YtjbpfhnagiacmaaGreat
