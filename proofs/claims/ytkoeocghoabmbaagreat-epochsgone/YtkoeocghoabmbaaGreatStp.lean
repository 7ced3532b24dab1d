/-
  The law's alive: the chapter's example, whatever the world.
  Steps as they came in, and whether they are light.
  A step of the laws' list: both sides stay alike.
-/
import Derived.Test.YtkoeocghoabmbaaGreatNww
import Derived.Test.YtkoeocghoabmbaaGreatDoo
namespace Go.Proofs.YtkoeocghoabmbaaGreat
section
set_option linter.unusedVariables false
set_option linter.unusedSimpArgs false
set_option synthInstance.maxSize 20000
set_option maxHeartbeats 2000000
set_option maxRecDepth 20000
open Go.RowKit Go.Maps

def aS : St := ⟨[], []⟩
def aB : Bg := beginM aS.pair [⟨0, psN aS 0, 0, -1, 0⟩] (-1) 0
def aR : Rg × Int := learnP aB.S ⟨0, ssN aS 0, [], []⟩ aB.c
theorem alive_pure : aB.k = 0 ∧ aB.key ≠ 0 ∧ aR.2 = 0 ∧ aR.1.ks = [aB.key] ∧ aB.c.o = [] := by
  refine ⟨by kernel_rfl, by decide, by kernel_rfl, by kernel_rfl, by kernel_rfl⟩
theorem aS_ora : Ora aS 0 := ora0 (fun _ h => by cases h)
theorem aB_ora : Ora aB.S 100 := (begin_ora (aS_ora.pair (by omega)) [⟨0, psN aS 0, 0, -1, 0⟩] (-1) 0 (by simp)).le (by simp)
theorem alive8 (w : World) : Calls Tryz.prog 8 #[] w fun r w' => r = .returned (.bool true) ∧ Below w.heap.size w w' := by
  have HO : Hid (Calls Tryz.prog 24 #[.slice none 0 0] w fun e w' => ∃ b, e = .returned (ptr b) ∧ OrcAt w' (newTo (fun _ => 0) w 1) b aS ∧ Mv [] w (fun _ => 0) w' (newTo (fun _ => 0) w 1)) := orc_new (fun _ => 0) (rdU_nil w) (by simp)
  have HPr : Hid (∀ w' o' ob, OrcAt w' o' ob aS → Calls Tryz.prog 25 #[ptr ob] w' fun e w'' => e = .returned (.tuple #[.int .u64 (ssN aS 0), .int .u64 (psN aS 0)]) ∧ ∃ o'', OrcAt w'' o'' ob aS.pair ∧ Mv [1] w' o' w'' o'') := fun w' o' ob h => orc_pair h aS_ora (by omega)
  have HRn : Hid (∀ w' o' ob, Calls Tryz.prog 23 #[ptr ob, .int .i64 0, .int .u64 (ssN aS 0)] w' fun r w'' => r = .returned (.tuple #[ptr w'.heap.size, .int .i64 0]) ∧ RIs w'' (newTo o' w' 10) 10 w'.heap.size ob ⟨0, ssN aS 0, [], []⟩ ∧ Below w'.heap.size w' w'') := fun w' o' ob => new23 w' o' 10 ob 0 _ (by omega) (by omega)
  have HNs : Hid (∀ w', Calls Tryz.prog 26 #[.int .u64 (psN aS 0)] w' fun r w'' => ∃ v, r = .returned (stv v (-1)) ∧ RowF mc w'' v [⟨0, psN aS 0, 0, -1, 0⟩] ∧ (∀ j, v.ownBlock = some j → w'.heap.size ≤ j) ∧ Below w'.heap.size w' w'') := fun w' => new10f (psN aS 0) w'
  have HBg : Hid (∀ w' o' ob lv, OrcAt w' o' ob aS.pair → KpF mc w' o' lv [⟨0, psN aS 0, 0, -1, 0⟩] → Calls Tryz.prog 15 #[ptr ob, stv lv (-1), .int .u64 0] w' (BgPost w' o' ob aB)) := fun w' o' ob lv h1 h2 => by
    refine begin15 h1 (aS_ora.pair (by omega)) h2 (by simp) (by simp) (fun m hm => ?_) (by unfold EOk; omega) (by unfold U64; omega)
    simp at hm
    subst hm
    exact ⟨psN_u64 aS_ora (by omega), by unfold I64; dsimp only; omega⟩
  have HLn : Hid (∀ w' o' rb ob a b qs, RIs w' o' 10 rb ob ⟨0, ssN aS 0, [], []⟩ → OrcAt w' o' ob aB.S → CgAt w' aB.c a b qs → Kp0 w' o' b aB.c.o → Calls Tryz.prog 20 #[ptr rb, cv aB.c a b] w' fun x w'' => x = .returned (.int .i64 0) ∧ ∃ o'', RIs w'' o'' 10 rb ob aR.1 ∧ Mv [10] w' o' w'' o'') := fun w' o' rb ob a b qs h1 h2 h3 h4 => by
    have h := learn20 h1 h2 aB_ora (by omega) (by omega) h3 h4 (by rw [alive_pure.2.2.2.2]; simp)
    have e : (learnP aB.S ⟨0, ssN aS 0, [], []⟩ aB.c).2 = 0 := alive_pure.2.2.1
    rw [e] at h
    exact h
  have HKy : Hid (∀ w' o' rb ob, RIs w' o' 10 rb ob aR.1 → Calls Tryz.prog 11 #[ptr rb, .int .i64 0] w' fun x w'' => x = .returned (.tuple #[.int .u64 aB.key, .int .i64 0]) ∧ w'' = w') := fun w' o' rb ob h => by
    have h1 := key11 h 0
    have e : keyM aR.1.ks 0 = (aB.key, 0) := by
      rw [alive_pure.2.2.2.1]
      unfold keyM
      rw [if_neg (by simp), if_neg (by simpa using alive_pure.2.1)]
      rfl
    rw [e] at h1
    exact h1
  have HCn : Hid (∀ w' o' rb ob, RIs w' o' 10 rb ob aR.1 → Calls Tryz.prog 13 #[ptr rb] w' fun x w'' => x = .returned (.int .i64 1) ∧ w'' = w') := fun w' o' rb ob h => by
    have h1 := count13 h
    rw [alive_pure.2.2.2.1] at h1
    exact h1
  have hbk : aB.k = 0 := alive_pure.1
  have hk0 : (aB.key != 0) = true := by simpa using alive_pure.2.1
  have hk1 : (aB.key == aB.key) = true := by simp
  obtain ⟨s, hs⟩ : ∃ s, s = ssN aS 0 := ⟨_, rfl⟩
  obtain ⟨p, hp⟩ : ∃ p, p = psN aS 0 := ⟨_, rfl⟩
  rw [← hs] at HPr HRn HLn
  rw [← hp] at HPr HNs HBg
  generalize aR.1 = R1 at *
  generalize aS.pair = S1 at *
  generalize aS = S0 at *
  generalize aB = B at *
  clear hs hp
  go_enter Tryz.func8, Tryz.ntmps8
  go_upto_region 2 with (go_at_call 24; go_must (refine HO.out.mono ?_; rintro r w1 ⟨ob, rfl, hO1, hM1⟩))
  have HO1 : Hid (OrcAt w1 (newTo (fun _ => 0) w 1) ob S0) := hO1
  have HM1 : Hid (Mv [] w (fun _ => 0) w1 (newTo (fun _ => 0) w 1)) := hM1
  clear hO1 hM1 HO
  generalize newTo (fun _ => 0) w 1 = o1 at *
  go_upto_region 3 with (go_at_call 25; go_must (refine (HPr.out w1 o1 ob HO1.out).mono ?_; rintro r w2 ⟨rfl, o2, hO2, hM2⟩))
  have HO2 : Hid (OrcAt w2 o2 ob S1) := hO2
  have HM2 : Hid (Mv [1, 10] w (fun _ => 0) w2 o2) := (show Mv _ _ _ _ _ from (HM1.out.widen (by simp)).trans (hM2.widen (by simp)))
  clear hO2 hM2 HO1 HM1
  go_upto_region 4 with (go_at_call 23; go_must (refine (HRn.out w2 o2 ob).mono ?_; rintro r w3 ⟨rfl, hR3, hb3⟩))
  have HO3 : Hid (OrcAt w3 (newTo o2 w2 10) ob S1) := (show OrcAt _ _ _ _ from HO2.out.mv (Mv.of_below (I := []) 10 hb3) (by simp))
  have HM3 : Hid (Mv [1, 10] w (fun _ => 0) w3 (newTo o2 w2 10)) := (show Mv _ _ _ _ _ from HM2.out.trans (Mv.of_below 10 hb3))
  have HR3 : Hid (RIs w3 (newTo o2 w2 10) 10 w2.heap.size ob ⟨0, s, [], []⟩) := hR3
  clear hR3 hb3 HO2 HM2
  generalize newTo o2 w2 10 = o3 at *
  generalize w2.heap.size = rb at *
  go_upto_region 5 with (first
    | (go_at_call 26; go_must (refine (HNs.out w3).mono ?_; rintro r w4 ⟨v4, rfl, hr4, hn4, hb4⟩; have hK4 : KpF mc w4 (newTo o3 w3 0) v4 [⟨0, p, 0, -1, 0⟩] := KpF.of_new mc_pos hr4 hn4; obtain ⟨x4, y4, hv4⟩ := hr4.len; subst hv4; have HO4 : Hid (OrcAt w4 (newTo o3 w3 0) ob S1) := (show OrcAt _ _ _ _ from HO3.out.below hb4); have HM4 : Hid (Mv [1, 10] w (fun _ => 0) w4 (newTo o3 w3 0)) := (show Mv _ _ _ _ _ from HM3.out.trans (Mv.of_below 0 hb4)); have HR4 : Hid (RIs w4 (newTo o3 w3 0) 10 rb ob ⟨0, s, [], []⟩) := (show RIs _ _ _ _ _ _ from HR3.out.mv (Mv.of_below (I := []) 0 hb4) (by simp) (by simp)); unfold stv))
    | (go_at_call 15; go_must (refine (HBg.out w4 (newTo o3 w3 0) ob _ HO4.out hK4).mono ?_; rintro r w5 ⟨a5, b5, rfl, o5, qs5, hO5, hC5, hK5, hq5, hb5, hM5⟩; obtain ⟨⟨xa5, na5, pa5, ea5⟩, xb5, nb5, pb5, eb5⟩ := slices_of hC5; subst ea5 eb5; have HM5 : Hid (Mv [1, 10] w (fun _ => 0) w5 o5) := (show Mv _ _ _ _ _ from HM4.out.trans (hM5.widen (by simp))); have HR5 : Hid (RIs w5 o5 10 rb ob ⟨0, s, [], []⟩) := (show RIs _ _ _ _ _ _ from HR4.out.mv hM5 (by simp) (by simp)); unfold cv)))
  have hal : Below w5.heap.size w5 (w5.alloc (.cells #[.int .i64 B.c.k, .int .i64 B.c.w, .int .u64 B.c.p, .int .i64 B.c.l, .slice xa5 na5 pa5, .slice xb5 nb5 pb5] 59)) := balloc (Below.refl _ _) _
  have HV : Hid (CVar (w5.alloc (.cells #[.int .i64 B.c.k, .int .i64 B.c.w, .int .u64 B.c.p, .int .i64 B.c.l, .slice xa5 na5 pa5, .slice xb5 nb5 pb5] 59)) (newTo o5 w5 0) w5.heap.size 59 B.c (.slice xa5 na5 pa5) (.slice xb5 nb5 pb5) qs5) := cvar_new 59 hC5 hK5 hq5 hb5
  have HO6 : Hid (OrcAt (w5.alloc (.cells #[.int .i64 B.c.k, .int .i64 B.c.w, .int .u64 B.c.p, .int .i64 B.c.l, .slice xa5 na5 pa5, .slice xb5 nb5 pb5] 59)) (newTo o5 w5 0) ob B.S) := (show OrcAt _ _ _ _ from hO5.below hal)
  have HR6 : Hid (RIs (w5.alloc (.cells #[.int .i64 B.c.k, .int .i64 B.c.w, .int .u64 B.c.p, .int .i64 B.c.l, .slice xa5 na5 pa5, .slice xb5 nb5 pb5] 59)) (newTo o5 w5 0) 10 rb ob ⟨0, s, [], []⟩) := (show RIs _ _ _ _ _ _ from HR5.out.mv (Mv.of_below (I := []) 0 hal) (by simp) (by simp))
  have HM6 : Hid (Mv [1, 10] w (fun _ => 0) (w5.alloc (.cells #[.int .i64 B.c.k, .int .i64 B.c.w, .int .u64 B.c.p, .int .i64 B.c.l, .slice xa5 na5 pa5, .slice xb5 nb5 pb5] 59)) (newTo o5 w5 0)) := (show Mv _ _ _ _ _ from HM5.out.trans (Mv.of_below 0 hal))
  generalize w5.alloc (.cells #[.int .i64 B.c.k, .int .i64 B.c.w, .int .u64 B.c.p, .int .i64 B.c.l, .slice xa5 na5 pa5, .slice xb5 nb5 pb5] 59) = w6 at *
  generalize newTo o5 w5 0 = o6 at *
  generalize w5.heap.size = vb at *
  have x0 := HV.out.var.cell 0 _ rfl; have x1 := HV.out.var.cell 1 _ rfl; have x2 := HV.out.var.cell 2 _ rfl; have x3 := HV.out.var.cell 3 _ rfl; have x4 := HV.out.var.cell 4 _ rfl; have x5 := HV.out.var.cell 5 _ rfl
  clear hal hC5 hK5 hq5 hb5 hO5 hM5 HR5 HM5 HM4 HR4 HO4 hr4 hn4 hb4 hK4 HO3 HM3 HR3 HNs HBg HPr HRn
  unfold cv at HLn
  go_upto_region 6 with (go_at_call 20; go_must (refine (HLn.out w6 o6 rb ob _ _ _ HR6.out HO6.out HV.out.cg HV.out.kb).mono ?_; rintro r w7 ⟨rfl, o7, hR7, hM7⟩))
  have HR7 : Hid (RIs w7 o7 10 rb ob R1) := hR7
  have HM7 : Hid (Mv [1, 10] w (fun _ => 0) w7 o7) := (show Mv _ _ _ _ _ from HM6.out.trans (hM7.widen (by simp)))
  clear hR7 hM7 HR6 HM6 HO6 HV HLn x0 x1 x2 x3 x4 x5
  go_wp2_with (first
    | (go_at_call 11; go_must (refine (HKy.out w7 o7 rb ob HR7.out).mono ?_; rintro r w8 ⟨rfl, rfl⟩))
    | (go_at_call 13; go_must (refine (HCn.out w8 o7 rb ob HR7.out).mono ?_; rintro r w9 ⟨rfl, rfl⟩)))
  go_ret
  exact ⟨rfl, HM7.out.below (Nat.le_refl _) (by simp)⟩
end

section
set_option linter.unusedVariables false
set_option linter.unusedSimpArgs false
set_option synthInstance.maxSize 20000
set_option maxHeartbeats 2000000
set_option maxRecDepth 20000
open Go.RowKit Go.Maps

abbrev Oq := Ope × Value × Value
def oqf (q : Oq) : List Value := [.int .i64 q.1.k, .int .i64 q.1.w, .int .u64 q.1.p, q.2.1, q.2.2]
theorem oqf_len (q : Oq) : (oqf q).length = 5 := rfl
structure OpRd (w : World) (q : Oq) (qs : List Wq) : Prop where
  cg : CgAt w ⟨3, 0, 0, 0, q.1.ws, q.1.o⟩ q.2.1 q.2.2 qs
  hk : I64 q.1.k
  hw : I64 q.1.w
  hp : U64 q.1.p
/-- The value v shows these steps. -/
structure OpsAt (w : World) (v : Value) (cs : List Oq) : Prop where
  row : RowF oqf w v cs
  each : ∀ q ∈ cs, ∃ qs, OpRd w q qs
def fewO (q : Oq) : Prop := q.1.ws.length ≤ 20 ∧ q.1.o.length ≤ 60 ∧ ∀ x ∈ q.1.ws, x.b.length ≤ 60
def LtP (dn : Nat) (cs : List Oq) : Prop := dn ≤ 50 ∧ cs.length ≤ 40 ∧ ∀ q ∈ cs, fewO q
theorem lt_bool (dn : Nat) (cs : List Oq) : ∃ b : Bool, b = true ↔ LtP dn cs := by
  by_cases h : LtP dn cs
  · exact ⟨true, fun _ => h, fun _ => rfl⟩
  · exact ⟨false, fun e => (by cases e), fun e => absurd e h⟩
def LtPost (w : World) (b : Bool) (r : Ending) (w' : World) : Prop := r = .returned (.bool b) ∧ w' = w
theorem take_succ_mem {α : Type} {l : List α} {k : Nat} {x y : α} (h : l[k]? = some x) (hy : y ∈ l.take (k + 1)) : y ∈ l.take k ∨ y = x := by
  have hk' := List.getElem?_eq_some_iff.1 h
  rw [List.take_succ_eq_append_getElem hk'.1, hk'.2] at hy
  rcases List.mem_append.1 hy with e | e
  · exact .inl e
  · simp at e
    exact .inr e
theorem light7 {w : World} {da : Option Addr} {dn dc : Nat} (hdc : dn ≤ dc) (hdm : dc ≤ 9223372036854775807) {v : Value} {cs : List Oq} (h : OpsAt w v cs) {b : Bool} (hb : b = true ↔ LtP dn cs) : Calls Tryz.prog 7 #[.slice da dn dc, v] w (LtPost w b) := by
  obtain ⟨av, cap, rfl⟩ := h.row.len
  have hcap := h.row.caps
  have hc1 : cs.length ≤ cap := hcap.2.1
  have hc2 : cap ≤ 9223372036854775807 := hcap.2.2
  have HRow : Hid (RowF oqf w (.slice av cs.length cap) cs) := h.row
  have HE : Hid (∀ q ∈ cs, ∃ qs, OpRd w q qs) := h.each
  obtain ⟨n, hn⟩ : ∃ n, n = cs.length := ⟨_, rfl⟩
  have HN : Hid (n = cs.length) := hn
  have HNo : Hid (¬ LtP dn cs → b = false) := fun h => by
    cases b with
    | false => rfl
    | true => exact absurd (hb.1 rfl) h
  have HOk : Hid (LtP dn cs → b = true) := hb.2
  rw [← hn] at hc1 HRow ⊢
  clear h hcap hn hb
  by_cases h50 : dn ≤ 50
  · by_cases h40 : n ≤ 40
    · have HYes : Hid ((∀ q ∈ cs, fewO q) → b = true) := fun h => HOk.out ⟨h50, by rw [← HN.out]; exact h40, h⟩
      go_enter Tryz.func7, Tryz.ntmps7
      go_wp2
      go_loopw [5] (fun i wr => ∃ k : Nat, i = .int .i64 k ∧ k ≤ n ∧ Hid (∀ q ∈ cs.take k, fewO q) ∧ Hid (w = wr)) (fun i _ => n - (intOf i).toNat)
      case atStart => exact ⟨0, rfl, by omega, (fun q hq => by simp at hq), (show w = w from rfl)⟩
      case round =>
        obtain ⟨k, rfl, hk, HI, HW⟩ := hrel
        have hww := HW.out
        subst hww
        by_cases hki : k < n
        · obtain ⟨q, hq⟩ : ∃ q, cs[k]? = some q := ⟨_, List.getElem?_eq_getElem (by have := HN.out; omega)⟩
          obtain ⟨g, off, ea, hr⟩ := HRow.out.at oqf_len hq
          subst ea
          obtain ⟨qs, hC⟩ := HE.out q (List.mem_of_getElem? hq)
          have HGO : Hid (fewO q → ∀ q ∈ cs.take (k + 1), fewO q) := fun h x hx => by
            rcases take_succ_mem hq hx with e | e
            · exact HI.out x e
            · rw [e]
              exact h
          have HQ : Hid (¬ fewO q → b = false) := fun h => HNo.out (fun h2 => h (h2.2.2 q (List.mem_of_getElem? hq)))
          have HWs : Hid (q.1.ws = qs.map (·.1)) := hC.cg.ws.symm
          have e4 := hr 3 _ rfl
          have e5 := hr 4 _ rfl
          obtain ⟨xa, pa, ha⟩ := hC.cg.row.len
          obtain ⟨xb, pb, hb⟩ := hC.cg.old.len
          dsimp only at hb
          have hcc := hC.cg.row
          have HRq : Hid (RowF wq w (.slice xa qs.length pa) qs) := by rw [ha] at hcc; exact hcc
          have hc3 := HRq.out.caps
          have hc4 : qs.length ≤ pa := hc3.2.1
          have hc5 : pa ≤ 9223372036854775807 := hc3.2.2
          have HRd : Hid (∀ q ∈ qs, Rd w q.2 q.1.b) := hC.cg.rd
          rw [ha] at e4
          rw [hb] at e5
          obtain ⟨m, hm⟩ : ∃ m, m = qs.length := ⟨_, rfl⟩
          have HM : Hid (m = qs.length) := hm
          obtain ⟨no, hno⟩ : ∃ no, no = q.1.o.length := ⟨_, rfl⟩
          have HNO : Hid (no = q.1.o.length) := hno
          rw [← hm] at e4 HRq hc4
          rw [← hno] at e5
          clear hr hC hcc hc3 ha hb hm hno hq
          by_cases h20 : m ≤ 20
          · by_cases h100 : no ≤ 60
            · have HF : Hid ((∀ x ∈ q.1.ws, x.b.length ≤ 60) → ∀ q ∈ cs.take (k + 1), fewO q) := fun h => HGO.out ⟨by rw [HWs.out, List.length_map, ← HM.out]; exact h20, by rw [← HNO.out]; exact h100, h⟩
              go_wp2
              have hw9 : Hid (w = w) := (show w = w from rfl)
              go_loopw [6] (fun i2 wr2 => ∃ j : Nat, i2 = .int .i64 j ∧ j ≤ m ∧ Hid (∀ x ∈ q.1.ws.take j, x.b.length ≤ 60) ∧ Hid (w = wr2)) (fun i2 _ => m - (intOf i2).toNat)
              case atStart => exact ⟨0, rfl, by omega, (fun x hx => by simp at hx), (show w = w from rfl)⟩
              case round =>
                obtain ⟨j, rfl, hj, HI2, HW2⟩ := hrel
                have hww := HW2.out
                subst hww
                by_cases hjm : j < m
                · obtain ⟨p, hp⟩ : ∃ p, qs[j]? = some p := ⟨_, List.getElem?_eq_getElem (by have := HM.out; omega)⟩
                  obtain ⟨g2, off2, ea2, hr2⟩ := HRq.out.at wq_len hp
                  subst ea2
                  have d1 := hr2 1 _ rfl
                  obtain ⟨xp, pp, hpp⟩ := (HRd.out p (List.mem_of_getElem? hp)).len
                  rw [hpp] at d1
                  have hp1 : q.1.ws[j]? = some p.1 := by rw [HWs.out, List.getElem?_map, hp]; rfl
                  have HS2 : Hid (¬ p.1.b.length ≤ 60 → b = false) := fun h => HQ.out (fun h2 => h (h2.2.2 _ (List.mem_of_getElem? hp1)))
                  have HG2 : Hid (p.1.b.length ≤ 60 → ∀ x ∈ q.1.ws.take (j + 1), x.b.length ≤ 60) := fun h x hx => by
                    rcases take_succ_mem hp1 hx with e | e
                    · exact HI2.out x e
                    · rw [e]
                      exact h
                  clear hp1
                  generalize p.1.b.length = pn at *
                  clear hr2 hp hpp
                  by_cases h9 : pn ≤ 60
                  · have HG3 : Hid (∀ x ∈ q.1.ws.take (j + 1), x.b.length ≤ 60) := HG2.out h9
                    go_wp2
                    go_roundw
                    case rel => exact ⟨j + 1, by go_num, by omega, HG3, trivial⟩
                    case measure => simp [intOf]; omega
                  · have HB : Hid (b = false) := HS2.out h9
                    go_wp2
                    go_ret
                    exact ⟨by rw [HB.out]; rfl, rfl⟩
                · have HF2 : Hid (∀ q ∈ cs.take (k + 1), fewO q) := HF.out (fun x hx => HI2.out x (by rw [List.take_of_length_le (by rw [HWs.out, List.length_map]; have := HM.out; omega)]; exact hx))
                  go_wp2
                  go_roundw
                  case rel => exact ⟨k + 1, by go_num, by omega, HF2, trivial⟩
                  case measure => simp [intOf]; omega
            · have HB : Hid (b = false) := HQ.out (fun h => h100 (by rw [HNO.out]; exact h.2.1))
              go_wp2
              go_ret
              exact ⟨by rw [HB.out]; rfl, rfl⟩
          · have HB : Hid (b = false) := HQ.out (fun h => h20 (by have := h.1; rw [HWs.out, List.length_map, ← HM.out] at this; exact this))
            go_wp2
            go_ret
            exact ⟨by rw [HB.out]; rfl, rfl⟩
        · have HB : Hid (b = true) := HYes.out (fun q hq => HI.out q (by rw [List.take_of_length_le (by have := HN.out; omega)]; exact hq))
          go_wp2
          go_ret
          exact ⟨by rw [HB.out]; rfl, rfl⟩
    · have HB : Hid (b = false) := HNo.out (fun h => h40 (by rw [HN.out]; exact h.2.1))
      go_enter Tryz.func7, Tryz.ntmps7
      go_wp2
      go_ret
      exact ⟨by rw [HB.out]; rfl, rfl⟩
  · have HB : Hid (b = false) := HNo.out (fun h => h50 h.1)
    go_enter Tryz.func7, Tryz.ntmps7
    go_wp2
    go_ret
    exact ⟨by rw [HB.out]; rfl, rfl⟩
end

section
set_option linter.unusedVariables false
set_option linter.unusedSimpArgs false
set_option synthInstance.maxSize 20000
set_option maxHeartbeats 2000000
set_option maxRecDepth 20000
open Go.RowKit Go.Maps

theorem Inv.le {G : Gd} {n m n' m' : Nat} (h : Inv G n m) (hn : n ≤ n') (hm : m ≤ m') : Inv G n' m' := ⟨⟨h.ok.ora.le hn, h.ok.mok, Nat.le_trans h.ok.len hm, h.ok.pos, h.ok.mem, h.ok.ps, h.ok.last⟩, h.ts, h.km, h.rel, h.who⟩
theorem op_at {w0 w : World} {o : Nat → Nat} {wb : Nat} {G : Gd} {sl tl : Value} {q : Oq} {qs : List Wq} (hW : WG w0 w o wb G sl tl) (hr : OpRd w0 q qs) (hf : fewO q) : OpAt w o q.1 q.2.1 q.2.2 qs := by
  have hb := hW.bel
  have hl := hW.low
  have hc := hr.cg.below hb
  have hws : qs.length = q.1.ws.length := by
    have := congrArg List.length hr.cg.ws
    rw [List.length_map] at this
    exact this
  refine ⟨hc, ⟨hc.row, fun hq k hk => ?_⟩, fun x hx => ⟨hc.rd x hx, fun hq k hk => hl k ((hr.cg.rd x hx).blockLt hq k hk)⟩, ⟨hc.old, fun hq k hk => hl k (hr.cg.old.blockLt hq k hk)⟩, hr.hk, hr.hw, hr.hp, ⟨by rw [hws]; exact hf.1, hf.2.1⟩⟩
  have h1 := rowF_lt wq_pos hr.cg.row hq k hk
  exact ⟨Nat.lt_of_lt_of_le h1 hb.size, hl k h1⟩
def StPost (w0 w : World) (o : Nat → Nat) (wb k : Nat) (r : Ending) (w' : World) : Prop := r = .returned (.bool true) ∧ ∃ o' G' sl' tl', WG w0 w' o' wb G' sl' tl' ∧ Inv G' (8 + 100 * (k + 1)) (k + 2) ∧ Mv wI w o w' o'
theorem do_step {w0 w : World} {o : Nat → Nat} {wb k : Nat} {G : Gd} {sl tl : Value} {q : Oq} {qs : List Wq} (hW : WG w0 w o wb G sl tl) (hI : Inv G (8 + 100 * k) (k + 1)) (hk : k < 90) (hr : OpRd w0 q qs) (hf : fewO q) :
    Calls Tryz.prog 10 #[ptr wb, opv q.1 q.2.1 q.2.2] w (StPost w0 w o wb k) := by
  refine (do10 hW hI.ok hI.km (by omega) (by omega) (op_at hW hr hf) (fun _ => ⟨hI.ts, hI.rel⟩)).mono ?_
  rintro r w' ⟨rfl, o', sl', tl', h1, h2⟩
  exact ⟨rfl, o', _, sl', tl', h1, (hI.doM (by omega) hr.hp hr.hw).le (by omega) (by omega), h2⟩
end
end Go.Proofs.YtkoeocghoabmbaaGreat
