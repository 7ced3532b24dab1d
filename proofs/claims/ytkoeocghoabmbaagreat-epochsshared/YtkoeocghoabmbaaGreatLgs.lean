/-
  Steps as they came in, and whether they are light.
  A step of the laws' list: both sides stay alike.
-/
import Derived.Test.YtkoeocghoabmbaaGreatAlw
import Derived.Test.YtkoeocghoabmbaaGreatDoo
namespace Go.Proofs.YtkoeocghoabmbaaGreat
section
set_option linter.unusedVariables false
set_option linter.unusedSimpArgs false
set_option synthInstance.maxSize 20000
set_option maxHeartbeats 2000000
set_option maxRecDepth 20000
open Go.RowKit Go.Maps
abbrev Oq := Ope × Value × Value
def oqf (q : Oq) : List Value := [.int .i64 q.1.k, .int .i64 q.1.w, .int .u64 q.1.p, q.2.1, q.2.2]
theorem oqf_len (q : Oq) : (oqf q).length = 5 := rfl
structure OpRd (w : World) (q : Oq) (qs : List Wq) : Prop where
  cg : CgAt w ⟨3, 0, 0, 0, q.1.ws, q.1.o⟩ q.2.1 q.2.2 qs
  hk : I64 q.1.k
  hw : I64 q.1.w
  hp : U64 q.1.p
structure OpsAt (w : World) (v : Value) (cs : List Oq) : Prop where
  row : RowF oqf w v cs
  each : ∀ q ∈ cs, ∃ qs, OpRd w q qs
def fewO (q : Oq) : Prop := q.1.ws.length ≤ 20 ∧ q.1.o.length ≤ 60 ∧ ∀ x ∈ q.1.ws, x.b.length ≤ 60
def LtP (dn : Nat) (cs : List Oq) : Prop := dn ≤ 50 ∧ cs.length ≤ 40 ∧ ∀ q ∈ cs, fewO q
theorem lt_bool (dn : Nat) (cs : List Oq) : ∃ b : Bool, b = true ↔ LtP dn cs := by
  by_cases h : LtP dn cs
  · exact ⟨true, fun _ => h, fun _ => rfl⟩
  · exact ⟨false, fun e => (by cases e), fun e => absurd e h⟩
def LtPost (w : World) (b : Bool) (r : Ending) (w' : World) : Prop := r = .returned (.bool b) ∧ w' = w
theorem take_succ_mem {α : Type} {l : List α} {k : Nat} {x y : α} (h : l[k]? = some x) (hy : y ∈ l.take (k + 1)) : y ∈ l.take k ∨ y = x := by
  have hk' := List.getElem?_eq_some_iff.1 h
  rw [List.take_succ_eq_append_getElem hk'.1, hk'.2] at hy
  rcases List.mem_append.1 hy with e | e
  · exact .inl e
  · simp at e
    exact .inr e
theorem light7 {w : World} {da : Option Addr} {dn dc : Nat} (hdc : dn ≤ dc) (hdm : dc ≤ 9223372036854775807) {v : Value} {cs : List Oq} (h : OpsAt w v cs) {b : Bool} (hb : b = true ↔ LtP dn cs) : Calls Tryz.prog 7 #[.slice da dn dc, v] w (LtPost w b) := by
  obtain ⟨av, cap, rfl⟩ := h.row.len
  have hcap := h.row.caps
  have hc1 : cs.length ≤ cap := hcap.2.1
  have hc2 : cap ≤ 9223372036854775807 := hcap.2.2
  have HRow : Hid (RowF oqf w (.slice av cs.length cap) cs) := h.row
  have HE : Hid (∀ q ∈ cs, ∃ qs, OpRd w q qs) := h.each
  obtain ⟨n, hn⟩ : ∃ n, n = cs.length := ⟨_, rfl⟩
  have HN : Hid (n = cs.length) := hn
  have HNo : Hid (¬ LtP dn cs → b = false) := fun h => by
    cases b with
    | false => rfl
    | true => exact absurd (hb.1 rfl) h
  have HOk : Hid (LtP dn cs → b = true) := hb.2
  rw [← hn] at hc1 HRow ⊢
  clear h hcap hn hb
  by_cases h50 : dn ≤ 50
  · by_cases h40 : n ≤ 40
    · have HYes : Hid ((∀ q ∈ cs, fewO q) → b = true) := fun h => HOk.out ⟨h50, by rw [← HN.out]; exact h40, h⟩
      go_enter Tryz.func7, Tryz.ntmps7
      go_wp2
      go_loopw [5] (fun i wr => ∃ k : Nat, i = .int .i64 k ∧ k ≤ n ∧ Hid (∀ q ∈ cs.take k, fewO q) ∧ Hid (w = wr)) (fun i _ => n - (intOf i).toNat)
      case atStart => exact ⟨0, rfl, by omega, (fun q hq => by simp at hq), (show w = w from rfl)⟩
      case round =>
        obtain ⟨k, rfl, hk, HI, HW⟩ := hrel
        have hww := HW.out
        subst hww
        by_cases hki : k < n
        · obtain ⟨q, hq⟩ : ∃ q, cs[k]? = some q := ⟨_, List.getElem?_eq_getElem (by have := HN.out; omega)⟩
          obtain ⟨g, off, ea, hr⟩ := HRow.out.at oqf_len hq
          subst ea
          obtain ⟨qs, hC⟩ := HE.out q (List.mem_of_getElem? hq)
          have HGO : Hid (fewO q → ∀ q ∈ cs.take (k + 1), fewO q) := fun h x hx => by
            rcases take_succ_mem hq hx with e | e
            · exact HI.out x e
            · rw [e]
              exact h
          have HQ : Hid (¬ fewO q → b = false) := fun h => HNo.out (fun h2 => h (h2.2.2 q (List.mem_of_getElem? hq)))
          have HWs : Hid (q.1.ws = qs.map (·.1)) := hC.cg.ws.symm
          have e4 := hr 3 _ rfl
          have e5 := hr 4 _ rfl
          obtain ⟨xa, pa, ha⟩ := hC.cg.row.len
          obtain ⟨xb, pb, hb⟩ := hC.cg.old.len
          dsimp only at hb
          have hcc := hC.cg.row
          have HRq : Hid (RowF wq w (.slice xa qs.length pa) qs) := by rw [ha] at hcc; exact hcc
          have hc3 := HRq.out.caps
          have hc4 : qs.length ≤ pa := hc3.2.1
          have hc5 : pa ≤ 9223372036854775807 := hc3.2.2
          have HRd : Hid (∀ q ∈ qs, Rd w q.2 q.1.b) := hC.cg.rd
          rw [ha] at e4
          rw [hb] at e5
          obtain ⟨m, hm⟩ : ∃ m, m = qs.length := ⟨_, rfl⟩
          have HM : Hid (m = qs.length) := hm
          obtain ⟨no, hno⟩ : ∃ no, no = q.1.o.length := ⟨_, rfl⟩
          have HNO : Hid (no = q.1.o.length) := hno
          rw [← hm] at e4 HRq hc4
          rw [← hno] at e5
          clear hr hC hcc hc3 ha hb hm hno hq
          by_cases h20 : m ≤ 20
          · by_cases h100 : no ≤ 60
            · have HF : Hid ((∀ x ∈ q.1.ws, x.b.length ≤ 60) → ∀ q ∈ cs.take (k + 1), fewO q) := fun h => HGO.out ⟨by rw [HWs.out, List.length_map, ← HM.out]; exact h20, by rw [← HNO.out]; exact h100, h⟩
              go_wp2
              have hw9 : Hid (w = w) := (show w = w from rfl)
              go_loopw [6] (fun i2 wr2 => ∃ j : Nat, i2 = .int .i64 j ∧ j ≤ m ∧ Hid (∀ x ∈ q.1.ws.take j, x.b.length ≤ 60) ∧ Hid (w = wr2)) (fun i2 _ => m - (intOf i2).toNat)
              case atStart => exact ⟨0, rfl, by omega, (fun x hx => by simp at hx), (show w = w from rfl)⟩
              case round =>
                obtain ⟨j, rfl, hj, HI2, HW2⟩ := hrel
                have hww := HW2.out
                subst hww
                by_cases hjm : j < m
                · obtain ⟨p, hp⟩ : ∃ p, qs[j]? = some p := ⟨_, List.getElem?_eq_getElem (by have := HM.out; omega)⟩
                  obtain ⟨g2, off2, ea2, hr2⟩ := HRq.out.at wq_len hp
                  subst ea2
                  have d1 := hr2 1 _ rfl
                  obtain ⟨xp, pp, hpp⟩ := (HRd.out p (List.mem_of_getElem? hp)).len
                  rw [hpp] at d1
                  have hp1 : q.1.ws[j]? = some p.1 := by rw [HWs.out, List.getElem?_map, hp]; rfl
                  have HS2 : Hid (¬ p.1.b.length ≤ 60 → b = false) := fun h => HQ.out (fun h2 => h (h2.2.2 _ (List.mem_of_getElem? hp1)))
                  have HG2 : Hid (p.1.b.length ≤ 60 → ∀ x ∈ q.1.ws.take (j + 1), x.b.length ≤ 60) := fun h x hx => by
                    rcases take_succ_mem hp1 hx with e | e
                    · exact HI2.out x e
                    · rw [e]
                      exact h
                  clear hp1
                  generalize p.1.b.length = pn at *
                  clear hr2 hp hpp
                  by_cases h9 : pn ≤ 60
                  · have HG3 : Hid (∀ x ∈ q.1.ws.take (j + 1), x.b.length ≤ 60) := HG2.out h9
                    go_wp2
                    go_roundw
                    case rel => exact ⟨j + 1, by go_num, by omega, HG3, trivial⟩
                    case measure => simp [intOf]; omega
                  · have HB : Hid (b = false) := HS2.out h9
                    go_wp2
                    go_ret
                    exact ⟨by rw [HB.out]; rfl, rfl⟩
                · have HF2 : Hid (∀ q ∈ cs.take (k + 1), fewO q) := HF.out (fun x hx => HI2.out x (by rw [List.take_of_length_le (by rw [HWs.out, List.length_map]; have := HM.out; omega)]; exact hx))
                  go_wp2
                  go_roundw
                  case rel => exact ⟨k + 1, by go_num, by omega, HF2, trivial⟩
                  case measure => simp [intOf]; omega
            · have HB : Hid (b = false) := HQ.out (fun h => h100 (by rw [HNO.out]; exact h.2.1))
              go_wp2
              go_ret
              exact ⟨by rw [HB.out]; rfl, rfl⟩
          · have HB : Hid (b = false) := HQ.out (fun h => h20 (by have := h.1; rw [HWs.out, List.length_map, ← HM.out] at this; exact this))
            go_wp2
            go_ret
            exact ⟨by rw [HB.out]; rfl, rfl⟩
        · have HB : Hid (b = true) := HYes.out (fun q hq => HI.out q (by rw [List.take_of_length_le (by have := HN.out; omega)]; exact hq))
          go_wp2
          go_ret
          exact ⟨by rw [HB.out]; rfl, rfl⟩
    · have HB : Hid (b = false) := HNo.out (fun h => h40 (by rw [HN.out]; exact h.2.1))
      go_enter Tryz.func7, Tryz.ntmps7
      go_wp2
      go_ret
      exact ⟨by rw [HB.out]; rfl, rfl⟩
  · have HB : Hid (b = false) := HNo.out (fun h => h50 h.1)
    go_enter Tryz.func7, Tryz.ntmps7
    go_wp2
    go_ret
    exact ⟨by rw [HB.out]; rfl, rfl⟩
end
section
set_option linter.unusedVariables false
set_option linter.unusedSimpArgs false
set_option synthInstance.maxSize 20000
set_option maxHeartbeats 2000000
set_option maxRecDepth 20000
open Go.RowKit Go.Maps
theorem Inv.le {G : Gd} {n m n' m' : Nat} (h : Inv G n m) (hn : n ≤ n') (hm : m ≤ m') : Inv G n' m' := ⟨⟨h.ok.ora.le hn, h.ok.mok, Nat.le_trans h.ok.len hm, h.ok.pos, h.ok.mem, h.ok.ps, h.ok.last⟩, h.ts, h.km, h.rel, h.who⟩
theorem op_at {w0 w : World} {o : Nat → Nat} {wb : Nat} {G : Gd} {sl tl : Value} {q : Oq} {qs : List Wq} (hW : WG w0 w o wb G sl tl) (hr : OpRd w0 q qs) (hf : fewO q) : OpAt w o q.1 q.2.1 q.2.2 qs := by
  have hb := hW.bel
  have hl := hW.low
  have hc := hr.cg.below hb
  have hws : qs.length = q.1.ws.length := by
    have := congrArg List.length hr.cg.ws
    rw [List.length_map] at this
    exact this
  refine ⟨hc, ⟨hc.row, fun hq k hk => ?_⟩, fun x hx => ⟨hc.rd x hx, fun hq k hk => hl k ((hr.cg.rd x hx).blockLt hq k hk)⟩, ⟨hc.old, fun hq k hk => hl k (hr.cg.old.blockLt hq k hk)⟩, hr.hk, hr.hw, hr.hp, ⟨by rw [hws]; exact hf.1, hf.2.1⟩⟩
  have h1 := rowF_lt wq_pos hr.cg.row hq k hk
  exact ⟨Nat.lt_of_lt_of_le h1 hb.size, hl k h1⟩
def StPost (w0 w : World) (o : Nat → Nat) (wb k : Nat) (r : Ending) (w' : World) : Prop := r = .returned (.bool true) ∧ ∃ o' G' sl' tl', WG w0 w' o' wb G' sl' tl' ∧ Inv G' (8 + 100 * (k + 1)) (k + 2) ∧ Mv wI w o w' o'
theorem do_step {w0 w : World} {o : Nat → Nat} {wb k : Nat} {G : Gd} {sl tl : Value} {q : Oq} {qs : List Wq} (hW : WG w0 w o wb G sl tl) (hI : Inv G (8 + 100 * k) (k + 1)) (hk : k < 90) (hr : OpRd w0 q qs) (hf : fewO q) :
    Calls Tryz.prog 10 #[ptr wb, opv q.1 q.2.1 q.2.2] w (StPost w0 w o wb k) := by
  refine (do10 hW hI.ok hI.km (by omega) (by omega) (op_at hW hr hf) (fun _ => ⟨hI.ts, hI.rel⟩)).mono ?_
  rintro r w' ⟨rfl, o', sl', tl', h1, h2⟩
  exact ⟨rfl, o', _, sl', tl', h1, (hI.doM (by omega) hr.hp hr.hw).le (by omega) (by omega), h2⟩
end
end Go.Proofs.YtkoeocghoabmbaaGreat
