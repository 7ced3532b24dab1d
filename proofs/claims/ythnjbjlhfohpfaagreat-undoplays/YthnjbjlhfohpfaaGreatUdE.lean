/-
  Steps that come in: Light of them, one step done on a log.
-/
import Derived.Test.YthnjbjlhfohpfaaGreatUdN
import Derived.Test.YthnjbjlhfohpfaaGreatUdW
import Derived.Test.YthnjbjlhfohpfaaGreatLgt
import Derived.Test.YthnjbjlhfohpfaaGreatArgO
namespace Go.Proofs.YthnjbjlhfohpfaaGreat
set_option linter.unusedVariables false
set_option linter.unusedSimpArgs false
set_option synthInstance.maxSize 20000
set_option maxHeartbeats 2000000
set_option maxRecDepth 20000
open Go.RowKit Go.Maps

/-- A step of the law: an operation that comes or goes. -/
structure SpT where
  g : Bool
  q : OpT
def spc (s : SpT) : List Value := .bool s.g :: oc s.q
theorem spc_len (s : SpT) : (spc s).length = 11 := rfl
def spv (s : SpT) : Value := .agg (spc s).toArray
theorem info50 : (Tryz.prog.info? 40).map (·.size) = some 11 := by kernel_rfl
theorem exec_load50 {o : Oper} {r : Operand → Value} {w : World} {b off : Nat} {s : SpT} (x : Operand) (ho : o.op = .load 40 x) (hx : r x = .pointer (some ⟨b, off, none⟩)) (hc : w.rangeAt b off (spc s)) : (execOp r o).run Tryz.prog w = .ok (.value (spv s)) w := by
  have h := run_loadAt_mid (P := Tryz.prog) w b off 40 (spc s) _ hc Tryz.underlying40 rfl (by rw [spc_len]; exact info50)
  unfold execOp
  simp only [ho, hx, Sem.run_bind, h, Result.andThen_ok, Sem.run_pure]
  rfl
theorem exec_box50 {o : Oper} {r : Operand → Value} {w : World} {s : SpT} (x : Operand) (ho : o.op = .box 40 x) (hx : r x = spv s) : (execOp r o).run Tryz.prog w = .ok (.value (.pointer (some ⟨w.heap.size, 0, none⟩))) (w.alloc (.cells (spc s).toArray 40)) := by
  obtain ⟨g, k, ⟨a1, a2⟩, ⟨n1, n2⟩, ⟨p1, p2⟩, d, st, va, vn, vc, b⟩ := s
  unfold spv spc oc at hx
  unfold spc oc
  dsimp only at hx ⊢
  unfold execOp
  simp only [ho]
  go_simp
theorem range_sp {w : World} {b off : Nat} {s : SpT} (h : w.rangeAt b off (spc s)) : w.rangeAt b (off + 1) (oc s.q) := fun j u hj => by
  have := h (j + 1) u (by unfold spc; rw [List.getElem?_cons_succ]; exact hj)
  rwa [show off + (j + 1) = off + 1 + j by omega] at this
theorem range_at5 {w : World} {b off : Nat} {q : OpT} (h : w.rangeAt b off (oc q)) : w.rangeAt b (off + 1) (sc q.a) := fun j u hj => by
  match j, hj with
  | 0, hj => exact h 1 u hj
  | 1, hj => exact h 2 u hj
  | j + 2, hj => simp [sc] at hj
/-- A row of operations grows by one, as far as memory reaches. -/
theorem run_append_wide {w : World} (ty : TypeId) (v : Value) (ps : List OpT) (hown : w.ownsRow 0 38 10 v ps.length (flat oc ps)) (y : Value) (q : OpT) (hy : RowF oc w y [q]) (hlen : (ps.length + 1) * 104 ≤ 140737488355328) :
    ∃ v' w', (Builtin.append_ #[28, 28] ty #[v, y]).run Tryz.prog w = .ok v' w' ∧ w'.ownsRow 0 38 10 v' (ps ++ [q]).length (flat oc (ps ++ [q])) ∧ w.grownBy w' v.ownBlock ∧ (∀ j, v'.ownBlock = some j → v.ownBlock = some j ∨ w.heap.size ≤ j) := by
  obtain ⟨ad, c, rfl, k1, k2, k3, k4⟩ := hy
  obtain ⟨i, hi, hz, hs1, hs2⟩ := info_parts ty28.info
  have hmax : ps.length + [q].length ≤ maxLen := by show ps.length + 1 ≤ maxLen; unfold maxLen; omega
  cases ad with
  | none => exact absurd (show 1 ≤ c from k1) (by rw [k3 rfl]; omega)
  | some ad =>
    have hcells : ∀ j u, (flat oc [q])[j]? = some u → w.cell? (ad.add j) = some u := fun j u hj => by
      obtain ⟨b, off, e, hc⟩ := k4 (by simp)
      cases e
      rw [Addr.add_lit]
      exact hc j u hj
    obtain ⟨v', w', hrun, r1, r2, r3⟩ := run_append_where (P := Tryz.prog) w 0 28 ty 38 i _ 10 104 ty28.under hi hz hs1 hs2 ty28.zsize ty28.pos v ps.length (flat oc ps) hown ad [q].length c (flat oc [q]) (flat_length oc_len [q]) hcells (flat_oc_one [q]) hmax (by simpa using hlen) (Nat.zero_le _)
    exact ⟨v', w', hrun, by rw [List.length_append, flat_append]; exact r1, r2, r3⟩
theorem wpList_appW {ops : Array Oper} {rest : List Oper} {o : Oper} {a : Act} {Q : Exit → Act → World → Prop} {w w0 : World} (hgd : o.guard = none) (s x : Operand) (ho : o.op = .call { callee := .builtin .append, args := #[s, x], argTypes := #[28, 28] })
    (v : Value) (O : List OpT) (hs : a.eval s = v) (hown : OwnO w0.heap.size w v O) (y : Value) (q : OpT) (hx : a.eval x = y) (hy : RowF oc w y [q]) (hlen : (O.length + 1) * 104 ≤ 140737488355328) (hb : Below w0.heap.size w0 w)
    (h : ∀ v' w', OwnO w0.heap.size w' v' (O ++ [q]) → Below w0.heap.size w0 w' → wpList Tryz.prog ops Q rest (a.put o.dst v') w') : wpList Tryz.prog ops Q (o :: rest) a w := by
  obtain ⟨v', w', hrun, r1, r2, r3⟩ := run_append_wide o.type v O hown.own y q hy hlen
  refine wpList_plain hgd fun K hK => ?_
  unfold Oper.wp
  simp [execOp, ho, resolve, invoke, builtin, hs, hx, hrun, Result.andThen]
  exact hK _ _ (h v' w' ⟨r1, new_of hown.new hb.size r3⟩ (hb.grown r2 hb.size hown.new))
set_option maxHeartbeats 8000000 in
theorem light18 {w : World} {v : Value} {l : List SpT} {n : Int} (h : RowF spc w v l) (hl : l.length * 104 ≤ 140737488355328) : Calls Tryz.prog 4 #[v, .int .i64 n] w fun e w' => e = .returned (.bool (lightB (l.map SpT.q) n)) ∧ Below w.heap.size w w' := by
  obtain ⟨a, c, rfl⟩ := h.len
  have HR : Hid (RowF spc w (.slice a l.length c) l) := h
  have hcap := h.caps
  clear h
  go_enter Tryz.func4, Tryz.ntmps4
  go_wp2
  go_loopw [5, 6] (fun vo vi wr => ∃ k : Nat, vi = .int .i64 (k : Int) ∧ k ≤ l.length ∧ Hid (OwnO w.heap.size wr vo ((l.map SpT.q).take k)) ∧ Hid (Below w.heap.size w wr)) (fun _ vi _ => l.length - (intOf vi).toNat)
  case atStart => exact ⟨0, rfl, Nat.zero_le _, ownO_nil _ _, Below.refl _ _⟩
  case round =>
    rename World => wr
    obtain ⟨k, rfl, hk, HO, HB⟩ := hrel
    by_cases hlt : k < l.length
    · have hkI : (k : Int) < (l.length : Int) := by omega
      obtain ⟨s, hs⟩ : ∃ s, l[k]? = some s := ⟨_, List.getElem?_eq_getElem hlt⟩
      obtain ⟨b, off, rfl, hc⟩ := RowF.at spc_len (HR.out.below HB.out) hs
      have HL : Hid (wr.rangeAt b (off + k * 11 + 1) (oc s.q)) := range_sp hc
      have HS : Hid ((l.map SpT.q).take (k + 1) = (l.map SpT.q).take k ++ [s.q]) := by
        have h1 : (l.map SpT.q)[k]? = some s.q := by rw [List.getElem?_map, hs]; rfl
        obtain ⟨hi, e⟩ := List.getElem?_eq_some_iff.1 h1
        show _ = _
        rw [List.take_succ_eq_append_getElem hi, e]
      obtain ⟨w2, hw2⟩ : ∃ w2, w2 = wr.alloc (.cells (oc s.q).toArray 38) := ⟨_, rfl⟩
      obtain ⟨p2, hp2⟩ : ∃ p2, p2 = wr.heap.size := ⟨_, rfl⟩
      have HW2 : Hid (w2 = wr.alloc (.cells (oc s.q).toArray 38)) := hw2
      have HP2 : Hid (p2 = wr.heap.size) := hp2
      have HB2 : Hid (Below wr.heap.size wr w2) := by show Below _ _ _; rw [hw2]; exact balloc (Below.refl _ _) _
      have HR2 : Hid (RowF oc w2 (.slice (some ⟨p2, 0, none⟩) 1 1) [s.q]) := by
        show RowF _ _ _ _
        rw [hw2, hp2]
        exact rowF_one wr s.q 38
      have HO2 : Hid (OwnO w.heap.size w2 u5 ((l.map SpT.q).take k)) := HO.out.below HB2.out
      have HBw : Hid (Below w.heap.size w w2) := bnext HB.out HB2.out
      have HK : Hid ((((l.map SpT.q).take k).length + 1) * 104 ≤ 140737488355328) := by
        show _ ≤ _
        rw [List.length_take, List.length_map]
        omega
      clear hw2 hp2 hs hc hl
      go_wp2_with (first
        | (refine wpList_okw rfl (exec_load40 (q := s.q) (.tmp 17) rfl rfl HL.out) ?_)
        | (refine wpList_okw rfl (exec_build1 (q := s.q) (.tmp 18) rfl rfl) ?_; rw [← HW2.out, ← HP2.out])
        | (at_builtin; go_must (refine wpList_appW (w0 := w) rfl (.tmp 13) (.tmp 19) rfl _ _ rfl HO2.out _ s.q rfl HR2.out HK.out HBw.out ?_; intro v3 w3 ho3 hb3; have HO3 : Hid (OwnO w.heap.size w3 v3 ((l.map SpT.q).take k ++ [s.q])) := ho3; have HB3 : Hid (Below w.heap.size w w3) := hb3; clear ho3 hb3)))
      go_roundw
      case rel => exact ⟨k + 1, by go_num, by omega, by show OwnO _ _ _ _; rw [HS.out]; exact HO3.out, HB3.out⟩
      case measure => simp [intOf]; omega
    · have hkI : ¬ (k : Int) < (l.length : Int) := by omega
      have HO4 : Hid (OwnO w.heap.size wr u5 (l.map SpT.q)) := by
        have := HO.out
        rwa [List.take_of_length_le (by rw [List.length_map]; omega)] at this
      have hlo : (l.map SpT.q).length * 104 ≤ 140737488355328 := by rw [List.length_map]; exact hl
      have HL : Hid (Calls Tryz.prog 19 #[u5, .int .i64 n] wr fun e w' => e = .returned (.bool (lightB (l.map SpT.q) n)) ∧ w' = wr) := light8 HO4.out.row (by omega)
      go_wp2_with (first
        | (go_at_call 19; go_must (refine HL.out.mono ?_; rintro e wx ⟨rfl, hw⟩; replace hw := hw.symm; subst hw)))
      go_ret
      exact ⟨rfl, HB.out⟩
/-- What a step makes of a log. -/
def StepB (U : List ST) (s : SpT) (T : List ST) (n k : Int) : Prop := (s.g = true ∧ RemB U s.q.a T n k) ∨ (s.g = false ∧ InsB U s.q T n k)
def SAns (w : World) (lb : Nat) (v : Value) (tb : Nat) (mo : Option Nat) (U : List ST) (s : SpT) (e : Ending) (w' : World) : Prop := ∃ n k v' mo' L' T, e = .returned (.tuple #[.int .i64 n, .int .i64 k]) ∧ LogAt w' lb v' tb mo' L' T ∧ Lw lb tb mo v w w' mo' v' ∧ StepB U s T n k
set_option maxHeartbeats 8000000 in
theorem step19 {w : World} {lb tb : Nat} {v : Value} {mo : Option Nat} {L : List IT} {U : List ST} {s : SpT} (h : LogAt w lb v tb mo L U) (hf : U.length ≤ 59) (hq : Rd w s.q.v s.q.b) (hql : s.q.b.length ≤ 1000) : Calls Tryz.prog 7 #[ptr lb, spv s] w (SAns w lb v tb mo U s) := by
  obtain ⟨w1, hw1⟩ : ∃ w1, w1 = w.alloc (.cells (spc s).toArray 40) := ⟨_, rfl⟩
  obtain ⟨B0, hB0⟩ : ∃ B0, B0 = w.heap.size := ⟨_, rfl⟩
  have HW1 : Hid (w1 = w.alloc (.cells (spc s).toArray 40)) := hw1
  have HG1 : Hid (B0 = w.heap.size) := hB0
  have HB1 : Hid (Below w.heap.size w w1) := by show Below _ _ _; rw [hw1]; exact balloc (Below.refl _ _) _
  have hblk : Blk w1 B0 40 (spc s) := by rw [hw1, hB0]; exact blk_new w (spc s) 40
  have h1 : LogAt w1 lb v tb mo L U := h.below HB1.out
  have cB := Blk.cell hblk 0 _ rfl
  have HLq : Hid (w1.rangeAt B0 1 (oc s.q)) := by have := range_sp hblk.range0; exact this
  have HLa : Hid (w1.rangeAt B0 2 (sc s.q.a)) := range_at5 HLq.out
  have HIn : Hid (Calls Tryz.prog 20 #[ptr lb, ov s.q] w1 (InsAns w1 lb v tb mo U s.q)) := insert10 h1 hf (hq.below HB1.out) hql
  have HRm : Hid (Calls Tryz.prog 23 #[ptr lb, sv s.q.a] w1 (RemAns w1 lb v tb mo U s.q.a)) := remove12 h1 s.q.a
  have HS : Hid (StrS U) := h.str
  clear hw1 hB0 hblk h1 h hq hql hf
  go_enter Tryz.func7, Tryz.ntmps7
  go_upto_region 1 with (refine wpList_okw rfl (exec_box50 (s := s) (.tmp 1) rfl rfl) ?_)
  rw [← HW1.out, ← HG1.out]
  clear HW1 HG1
  cases hg : s.g
  · rw [hg] at cB
    have HG : Hid (s.g = false) := hg
    clear hg
    go_wp2_with (first
      | (refine wpList_okw rfl (exec_load40 (q := s.q) (.tmp 16) rfl rfl HLq.out) ?_)
      | (go_at_call 20; go_must (refine HIn.out.mono ?_; rintro e w2 ⟨n, k, v', mo', L', T, rfl, d1, d2, d3⟩; have HA : Hid (LogAt w2 lb v' tb mo' L' T) := d1; have HV : Hid (Lw lb tb mo v w1 w2 mo' v') := d2; have HI : Hid (InsR U s.q T n k) := d3; clear d1 d2 d3)))
    go_ret2
    exact ⟨n, k, v', mo', L', T, rfl, HA.out, (Lw.of_below HB1.out).trans HV.out, .inr ⟨HG.out, HI.out.b HS.out⟩⟩
  · rw [hg] at cB
    have HG : Hid (s.g = true) := hg
    clear hg
    go_wp2_with (first
      | (refine wpList_okw rfl (exec_load24n (n := s.q.a) (.tmp 10) rfl rfl HLa.out) ?_)
      | (go_at_call 23; go_must (refine HRm.out.mono ?_; rintro e w2 ⟨n, k, v', mo', L', T, rfl, d1, d2, d3⟩; have HA : Hid (LogAt w2 lb v' tb mo' L' T) := d1; have HV : Hid (Lw lb tb mo v w1 w2 mo' v') := d2; have HI : Hid (RemR U s.q.a T n k) := d3; clear d1 d2 d3)))
    go_ret2
    exact ⟨n, k, v', mo', L', T, rfl, HA.out, (Lw.of_below HB1.out).trans HV.out, .inl ⟨HG.out, HI.out.b HS.out⟩⟩
section
open Go.ChangeShapes Go.WideShapes Go.ChangeAt
variable {H : Type} {enc : TypeId × Value → H} {w : World} {base : Nat} {held : Bool}
set_option maxRecDepth 100000 in
theorem sp_cells {fuel : Nat} {cs : List Value} {y : DataW H × List MemPlace} (hl : cs.length = 11) (hf : DataW.trod enc Tryz.prog w base (fun _ => true) held fuel 40 cs = some y) : ∃ s, cs = spc s ∧ QIn w s.q := by
  obtain ⟨c0, cs, rfl⟩ : ∃ c0 cs', cs = c0 :: cs' := by
    cases cs with
    | nil => cases hl
    | cons a b => exact ⟨a, b, rfl⟩
  have hl10 : cs.length = 10 := by simpa using hl
  obtain ⟨c1, c2, c3, c4, c5, c6, c7, c8, c9, c10, rfl⟩ := list10 hl10
  obtain ⟨xs, n, _, hx, _, hlen, hg⟩ := DataW.trod_struct Tryz.underlying40 hf
  obtain ⟨y0, y1, rfl⟩ : ∃ y0 y1, xs = [y0, y1] := by
    have : xs.length = 2 := hlen.trans (by rfl)
    match xs, this with
    | [a, b], _ => exact ⟨a, b, rfl⟩
  have g0 : DataW.trod enc Tryz.prog w base (fun _ => true) held n 4 [c0] = some y0 := hg 0 _ rfl
  have g1 : DataW.trod enc Tryz.prog w base (fun _ => true) held n 38 [c1, c2, c3, c4, c5, c6, c7, c8, c9, c10] = some y1 := hg 1 _ rfl
  obtain ⟨d, e4, _⟩ := DataW.trod_bool Tryz.underlying4 g0
  obtain ⟨q, hq, hi⟩ := op_cells rfl g1
  simp at e4
  subst e4
  exact ⟨⟨d, q⟩, by unfold spc; rw [← hq], hi⟩
end
end Go.Proofs.YthnjbjlhfohpfaaGreat
