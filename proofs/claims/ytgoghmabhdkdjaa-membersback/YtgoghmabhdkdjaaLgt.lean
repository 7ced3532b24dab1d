/-
  Lists of changes as they came in; whether they are light; whether states are the same.
-/
import Derived.Test.YtgoghmabhdkdjaaSta
namespace Go.Proofs.Ytgoghmabhdkdjaa
set_option linter.unusedVariables false
set_option linter.unusedSimpArgs false
set_option synthInstance.maxSize 20000
set_option maxHeartbeats 2000000
set_option maxRecDepth 20000
open Go.RowKit Go.Maps

abbrev Cq := Cg × Value × Value
def cqf (q : Cq) : List Value := cc q.1 q.2.1 q.2.2
theorem cqf_len (q : Cq) : (cqf q).length = 6 := rfl
/-- The value v shows these changes. -/
structure ChsAt (w : World) (v : Value) (cs : List Cq) : Prop where
  row : RowF cqf w v cs
  each : ∀ q ∈ cs, ∃ qs, CgAt w q.1 q.2.1 q.2.2 qs
theorem ChsAt.below {w w' : World} {v : Value} {cs : List Cq} (h : ChsAt w v cs) (hb : Below w.heap.size w w') : ChsAt w' v cs := ⟨h.row.below hb, fun q hq => by
  obtain ⟨qs, h1⟩ := h.each q hq
  exact ⟨qs, h1.below hb⟩⟩
def lightC (c : Cg) : Bool := decide (c.ws.length ≤ 20 ∧ c.o.length ≤ 100) && c.ws.all (fun x => decide (x.b.length ≤ 100))
def lightB (cs : List Cg) : Bool := decide (cs.length ≤ 60) && cs.all lightC
theorem all_take_succ {α : Type} {l : List α} {k : Nat} {x : α} (p : α → Bool) (h : l[k]? = some x) : (l.take (k + 1)).all p = ((l.take k).all p && p x) := by
  have hk := List.getElem?_eq_some_iff.1 h
  rw [List.take_succ_eq_append_getElem hk.1, hk.2]
  simp
theorem all_stop {α : Type} {l : List α} {k : Nat} {x : α} {p : α → Bool} (h : l[k]? = some x) (hp : p x = false) : l.all p = false := by
  rw [List.all_eq_false]
  exact ⟨x, List.mem_of_getElem? h, by rw [hp]; simp⟩
theorem all_full {α : Type} {l : List α} {k : Nat} {p : α → Bool} (h : (l.take k).all p = true) (hk : l.length ≤ k) : l.all p = true := by rwa [List.take_of_length_le hk] at h
theorem light8 {w : World} {v : Value} {cs : List Cq} (h : ChsAt w v cs) : Calls Try.prog 8 #[v] w fun r w' => r = .returned (.bool (lightB (cs.map (·.1)))) ∧ w' = w := by
  obtain ⟨av, cap, rfl⟩ := h.row.len
  have hcap := h.row.caps
  have hc1 : cs.length ≤ cap := hcap.2.1
  have hc2 : cap ≤ 9223372036854775807 := hcap.2.2
  have HRow : Hid (RowF cqf w (.slice av cs.length cap) cs) := h.row
  have HE : Hid (∀ q ∈ cs, ∃ qs, CgAt w q.1 q.2.1 q.2.2 qs) := h.each
  obtain ⟨n, hn⟩ : ∃ n, n = cs.length := ⟨_, rfl⟩
  have HN : Hid (n = cs.length) := hn
  have HL : Hid (lightB (cs.map (·.1)) = (decide (n ≤ 60) && (cs.map (·.1)).all lightC)) := (show _ = _ by unfold lightB; rw [List.length_map, hn])
  rw [← hn] at hc1 HRow ⊢
  clear h hcap hn
  by_cases h60 : n ≤ 60
  · have HL2 : Hid (lightB (cs.map (·.1)) = (cs.map (·.1)).all lightC) := (show _ = _ by rw [HL.out, decide_eq_true h60, Bool.true_and])
    clear HL
    go_enter Try.func8, Try.ntmps8
    go_wp2
    go_loopw [3] (fun i wr => ∃ k : Nat, i = .int .i64 k ∧ k ≤ n ∧ Hid (((cs.map (·.1)).take k).all lightC = true) ∧ Hid (w = wr)) (fun i _ => n - (intOf i).toNat)
    case atStart => exact ⟨0, rfl, by omega, (rfl : ((cs.map (·.1)).take 0).all lightC = true), (show w = w from rfl)⟩
    case round =>
      obtain ⟨k, rfl, hk, HI, HW⟩ := hrel
      have hww := HW.out
      subst hww
      by_cases hki : k < n
      · obtain ⟨q, hq⟩ : ∃ q, cs[k]? = some q := ⟨_, List.getElem?_eq_getElem (by have := HN.out; omega)⟩
        have hq1 : (cs.map (·.1))[k]? = some q.1 := by rw [List.getElem?_map, hq]; rfl
        obtain ⟨g, off, ea, hr⟩ := HRow.out.at cqf_len hq
        subst ea
        obtain ⟨qs, hC⟩ := HE.out q (List.mem_of_getElem? hq)
        have HST : Hid (lightC q.1 = false → lightB (cs.map (·.1)) = false) := fun h => by rw [HL2.out, all_stop hq1 h]
        have HGO : Hid (lightC q.1 = true → ((cs.map (·.1)).take (k + 1)).all lightC = true) := fun h => by rw [all_take_succ _ hq1, HI.out, h]; rfl
        have HWs : Hid (q.1.ws = qs.map (·.1)) := hC.ws.symm
        have e4 := hr 4 _ rfl
        have e5 := hr 5 _ rfl
        obtain ⟨xa, pa, ha⟩ := hC.row.len
        obtain ⟨xb, pb, hb⟩ := hC.old.len
        have hcc := hC.row
        have HRq : Hid (RowF wq w (.slice xa qs.length pa) qs) := by rw [ha] at hcc; exact hcc
        have hc3 := HRq.out.caps
        have hc4 : qs.length ≤ pa := hc3.2.1
        have hc5 : pa ≤ 9223372036854775807 := hc3.2.2
        have HRd : Hid (∀ q ∈ qs, Rd w q.2 q.1.b) := hC.rd
        rw [ha] at e4
        rw [hb] at e5
        obtain ⟨m, hm⟩ : ∃ m, m = qs.length := ⟨_, rfl⟩
        have HM : Hid (m = qs.length) := hm
        obtain ⟨no, hno⟩ : ∃ no, no = q.1.o.length := ⟨_, rfl⟩
        have HNO : Hid (no = q.1.o.length) := hno
        rw [← hm] at e4 HRq hc4
        rw [← hno] at e5
        have HLC : Hid (lightC q.1 = (decide (m ≤ 20 ∧ no ≤ 100) && q.1.ws.all (fun x => decide (x.b.length ≤ 100)))) := (show _ = _ by unfold lightC; rw [hno, hm, HWs.out, List.length_map])
        clear hr hC hcc hc3 ha hb hm hno hq hq1
        by_cases h20 : m ≤ 20
        · by_cases h100 : no ≤ 100
          · have HLC2 : Hid (lightC q.1 = q.1.ws.all (fun x => decide (x.b.length ≤ 100))) := (show _ = _ by rw [HLC.out, decide_eq_true ⟨h20, h100⟩, Bool.true_and])
            clear HLC
            go_wp2
            have hw9 : Hid (w = w) := (show w = w from rfl)
            go_loopw [4] (fun i2 wr2 => ∃ j : Nat, i2 = .int .i64 j ∧ j ≤ m ∧ Hid ((q.1.ws.take j).all (fun x => decide (x.b.length ≤ 100)) = true) ∧ Hid (w = wr2)) (fun i2 _ => m - (intOf i2).toNat)
            case atStart => exact ⟨0, rfl, by omega, (rfl : (q.1.ws.take 0).all (fun x => decide (x.b.length ≤ 100)) = true), (show w = w from rfl)⟩
            case round =>
              obtain ⟨j, rfl, hj, HI2, HW2⟩ := hrel
              have hww := HW2.out
              subst hww
              by_cases hjm : j < m
              · obtain ⟨p, hp⟩ : ∃ p, qs[j]? = some p := ⟨_, List.getElem?_eq_getElem (by have := HM.out; omega)⟩
                have hp1 : q.1.ws[j]? = some p.1 := by rw [HWs.out, List.getElem?_map, hp]; rfl
                obtain ⟨g2, off2, ea2, hr2⟩ := HRq.out.at wq_len hp
                subst ea2
                have d1 := hr2 1 _ rfl
                obtain ⟨xp, pp, hpp⟩ := (HRd.out p (List.mem_of_getElem? hp)).len
                rw [hpp] at d1
                have HS2 : Hid (decide (p.1.b.length ≤ 100) = false → lightB (cs.map (·.1)) = false) := fun h => HST.out (by rw [HLC2.out, all_stop hp1 h])
                have HG2 : Hid (decide (p.1.b.length ≤ 100) = true → (q.1.ws.take (j + 1)).all (fun x => decide (x.b.length ≤ 100)) = true) := fun h => by rw [all_take_succ _ hp1, HI2.out, h]; rfl
                generalize p.1.b.length = pn at *
                clear hr2 hp hp1 hpp
                by_cases h9 : pn ≤ 100
                · have HG3 := HG2.out (decide_eq_true h9)
                  have HG4 : Hid ((q.1.ws.take (j + 1)).all (fun x => decide (x.b.length ≤ 100)) = true) := HG3
                  clear HG3
                  go_wp2
                  go_roundw
                  case rel => exact ⟨j + 1, by go_num, by omega, HG4, trivial⟩
                  case measure => simp [intOf]; omega
                · have HS3 : Hid (lightB (cs.map (·.1)) = false) := HS2.out (decide_eq_false h9)
                  go_wp2
                  go_ret
                  exact ⟨by rw [HS3.out]; rfl, rfl⟩
              · have HG4 : Hid (((cs.map (·.1)).take (k + 1)).all lightC = true) := HGO.out (by rw [HLC2.out]; exact all_full HI2.out (by rw [HWs.out, List.length_map]; have := HM.out; omega))
                go_wp2
                go_roundw
                case rel => exact ⟨k + 1, by go_num, by omega, HG4, trivial⟩
                case measure => simp [intOf]; omega
          · have HS3 : Hid (lightB (cs.map (·.1)) = false) := HST.out (by rw [HLC.out, decide_eq_false (fun h => h100 h.2), Bool.false_and])
            go_wp2
            go_ret
            exact ⟨by rw [HS3.out]; rfl, rfl⟩
        · have HS3 : Hid (lightB (cs.map (·.1)) = false) := HST.out (by rw [HLC.out, decide_eq_false (fun h => h20 h.1), Bool.false_and])
          go_wp2
          go_ret
          exact ⟨by rw [HS3.out]; rfl, rfl⟩
      · have HE2 : Hid (lightB (cs.map (·.1)) = true) := (show _ = _ by rw [HL2.out]; exact all_full HI.out (by rw [List.length_map]; have := HN.out; omega))
        go_wp2
        go_ret
        exact ⟨by rw [HE2.out]; rfl, rfl⟩
  · have HL2 : Hid (lightB (cs.map (·.1)) = false) := (show _ = _ by rw [HL.out, decide_eq_false h60, Bool.false_and])
    clear HL
    go_enter Try.func8, Try.ntmps8
    go_wp2
    go_ret
    exact ⟨by rw [HL2.out]; rfl, rfl⟩
end Go.Proofs.Ytgoghmabhdkdjaa
