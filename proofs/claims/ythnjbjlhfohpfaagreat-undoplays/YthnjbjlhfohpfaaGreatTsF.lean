/-
  All and Kids of the program.
-/
import Derived.Test.YthnjbjlhfohpfaaGreatTsE
import Derived.Test.YthnjbjlhfohpfaaGreatTrZ
namespace Go.Proofs.YthnjbjlhfohpfaaGreat
set_option linter.unusedVariables false
set_option linter.unusedSimpArgs false
set_option synthInstance.maxSize 20000
set_option maxHeartbeats 2000000
set_option maxRecDepth 20000
open Go.RowKit Go.Maps

/-- A loop over a tree's map, which may not be there. -/
def ItT (w : World) (mo : Option Nat) (r : Nat) (L done : List IT) : Prop := (mo = none ∧ L = [] ∧ done = [] ∧ w.heap[r]? = some (.mapIter none 0 #[] 0)) ∨ ∃ mb, mo = some mb ∧ RgT w mb r L done
def itLeft (w : World) (mo : Option Nat) (r : Nat) : Nat := match mo with
  | none => 0
  | some mb => w.rangeLeft mb r
section
variable {w w' : World} {mo : Option Nat} {r : Nat} {L done : List IT}
theorem ItT.kept {row : Option Nat} (h : ItT w mo r L done) (hg : w.grownBy w' row) (hn : ∀ k, row = some k → some k ≠ mo ∧ k ≠ r) : ItT w' mo r L done ∧ itLeft w' mo r = itLeft w mo r := by
  rcases h with ⟨rfl, rfl, rfl, h⟩ | ⟨mb, rfl, h⟩
  · have hlt := (Array.getElem?_eq_some_iff.1 h).1
    exact ⟨.inl ⟨rfl, rfl, rfl, (hg.block r hlt (fun e => (hn r e.symm).2 rfl)).trans h⟩, rfl⟩
  · have := h.kept hg (fun e => (hn mb e.symm).1 rfl) (fun e => (hn r e.symm).2 rfl)
    exact ⟨.inr ⟨mb, rfl, this.1⟩, this.2⟩
theorem ItT.below (h : ItT w mo r L done) (hb : Below w.heap.size w w') : ItT w' mo r L done ∧ itLeft w' mo r = itLeft w mo r := h.kept (below_grown hb) (fun k hk => by cases hk)
theorem ItT.nocells (h : ItT w mo r L done) {c : Nat} {cs : Array Value} {e : TypeId} {z : Nat × Nat} (hc : w.heap[c]? = some (.cells cs e z)) : some c ≠ mo ∧ c ≠ r := by
  rcases h with ⟨rfl, rfl, rfl, h⟩ | ⟨mb, rfl, h⟩
  · refine ⟨by simp, fun e => ?_⟩
    subst e; rw [h] at hc; cases hc
  · have := h.nocells hc
    exact ⟨fun e => this.1 (Option.some.inj e), this.2⟩
theorem ItT.next (h : ItT w mo r L done) (ok : OkL L) (hs : SrtI (L.map IT.m)) (ty : TypeId) :
    ((∀ x ∈ L, x ∈ done) ∧ (Instr.next (.pointer (some ⟨r, 0, none⟩)) false ty).run Tryz.prog w = .ok (.tuple #[.bool false]) w) ∨
    ∃ x w', x ∈ L ∧ x ∉ done ∧ (Instr.next (.pointer (some ⟨r, 0, none⟩)) false ty).run Tryz.prog w = .ok (.tuple #[.bool true, sv x.m.n, iv x]) w' ∧ ItT w' mo r L (done ++ [x]) ∧ itLeft w' mo r < itLeft w mo r ∧ w.grownBy w' (some r) ∧ w'.heap.size = w.heap.size ∧
      (Instr.entry (.pointer (some ⟨r, 0, none⟩))).run Tryz.prog w' = .ok (.tuple #[sv x.m.n, iv x]) w' := by
  rcases h with ⟨rfl, rfl, rfl, h⟩ | ⟨mb, rfl, h⟩
  · refine .inl ⟨fun x hx => (by cases hx), ?_⟩
    simp only [Instr.next, getObj, Sem.run_bind, Sem.run, h, Result.andThen]
    rfl
  · rcases h.next ok hs ty with h1 | ⟨x, w', h1, h2, h3, h4, h5, h6, h7, h8⟩
    · exact .inl h1
    · exact .inr ⟨x, w', h1, h2, h3, .inr ⟨mb, rfl, h4⟩, h5, h6, h7, h8⟩
theorem ItT.sub (h : ItT w mo r L done) : (∀ x ∈ done, x ∈ L) ∧ done.Nodup := by
  rcases h with ⟨rfl, rfl, rfl, h⟩ | ⟨mb, rfl, n, D, left, cnt, h1, h2, h3, h4, h5, h6⟩
  · exact ⟨fun x h => h, List.nodup_nil⟩
  · exact ⟨h5, h6⟩
theorem itemsNodup (hs : SrtI (L.map IT.m)) : L.Nodup := by
  have : L.Pairwise fun x y => ltP x.m.n y.m.n := (List.pairwise_map (f := IT.m) (R := LtI)).1 hs
  exact this.imp fun {a b} h e => by rw [e] at h; exact ltP_irrefl _ h
theorem ItT.perm (h : ItT w mo r L done) (hs : SrtI (L.map IT.m)) (hall : ∀ x ∈ L, x ∈ done) : done.Perm L :=
  (List.perm_ext_iff_of_nodup h.sub.2 (itemsNodup hs)).2 fun a => ⟨h.sub.1 a, hall a⟩
theorem nodup_le {α : Type} : ∀ {l m : List α}, l.Nodup → (∀ x ∈ l, x ∈ m) → l.length ≤ m.length
  | [], m, _, _ => Nat.zero_le _
  | x :: l, m, hn, hs => by
    obtain ⟨h1, h2⟩ := List.nodup_cons.1 hn
    obtain ⟨a, b, rfl⟩ := List.append_of_mem (hs x (by simp))
    have := nodup_le (l := l) (m := a ++ b) h2 fun y hy => by
      have h3 := hs y (by simp [hy])
      rcases List.mem_append.1 h3 with h4 | h4
      · exact List.mem_append.2 (.inl h4)
      · rcases List.mem_cons.1 h4 with h5 | h5
        · rw [h5] at hy; exact absurd hy h1
        · exact List.mem_append.2 (.inr h5)
    simp only [List.length_append, List.length_cons] at this ⊢
    omega
theorem ItT.few (h : ItT w mo r L done) (hs : SrtI (L.map IT.m)) : done.length ≤ L.length := nodup_le h.sub.2 h.sub.1
theorem exec_range {o : Oper} {r' : Operand → Value} {v : Value} (x : Operand) (ho : o.op = .range 89 x) (hx : r' x = .map mo) (hrun : (Instr.range 89 (.map mo)).run Tryz.prog w = .ok v w') : (execOp r' o).run Tryz.prog w = .ok (.value v) w' := by
  unfold execOp
  simp only [ho, hx, Sem.run_bind, hrun, Result.andThen_ok, Sem.run_pure]
theorem exec_next {o : Oper} {r' : Operand → Value} {v : Value} {b : Nat} (x : Operand) (ho : o.op = .next x false) (hx : r' x = .pointer (some ⟨b, 0, none⟩)) (hrun : (Instr.next (.pointer (some ⟨b, 0, none⟩)) false o.type).run Tryz.prog w = .ok v w') : (execOp r' o).run Tryz.prog w = .ok (.value v) w' := by
  unfold execOp
  simp only [ho, hx, Sem.run_bind, hrun, Result.andThen_ok, Sem.run_pure]
theorem exec_entry {o : Oper} {r' : Operand → Value} {v : Value} {b : Nat} (x : Operand) (ho : o.op = .entry x) (hx : r' x = .pointer (some ⟨b, 0, none⟩)) (hrun : (Instr.entry (.pointer (some ⟨b, 0, none⟩))).run Tryz.prog w = .ok v w') : (execOp r' o).run Tryz.prog w = .ok (.value v) w' := by
  unfold execOp
  simp only [ho, hx, Sem.run_bind, hrun, Result.andThen_ok, Sem.run_pure]
theorem PTr.range {tb : Nat} (h : PTr w tb mo L) : ∃ w', (Instr.range 89 (.map mo)).run Tryz.prog w = .ok (.pointer (some ⟨w.heap.size, 0, none⟩)) w' ∧ ItT w' mo w.heap.size L [] ∧ w.grownBy w' none ∧ w'.heap.size = w.heap.size + 1 := by
  rcases h.mp with ⟨rfl, rfl⟩ | ⟨mb, rfl, hm⟩
  · exact ⟨_, run_range_nilMap w 89 35 61 under68, .inl ⟨rfl, rfl, rfl, (MapKept.heap_alloc w _).1⟩, World.grownBy_alloc w _ none, by simp⟩
  · obtain ⟨w', h1, h2, h3, h4⟩ := hm.range
    exact ⟨w', h1, .inr ⟨mb, rfl, h2⟩, h3, h4⟩
theorem srtI_perm {A B : List IM} (ha : SrtI A) (hb : SrtI B) (hp : A.Perm B) : A = B :=
  List.Perm.eq_of_pairwise (le := LtI) (fun a b _ _ h1 h2 => absurd (ltP_trans h1 h2) (ltP_irrefl _)) ha hb hp
theorem filter_bare (f : IM → Bool) (L : List IT) : (L.filter fun x => f x.m).map IT.m = (L.map IT.m).filter f := by
  rw [List.filter_map]
  rfl
theorem nodes_nodup {f : IM → Bool} (hs : SrtI (L.map IT.m)) : ((L.filter fun x => f x.m).map fun x => x.m.n).Nodup := by
  have h1 : L.Pairwise fun x y => ltP x.m.n y.m.n := (List.pairwise_map (f := IT.m) (R := LtI)).1 hs
  have h2 := h1.filter (fun x => f x.m)
  exact List.pairwise_map.2 (h2.imp fun {a b} h e => by rw [e] at h; exact ltP_irrefl _ h)
end
/-- Copies of items. -/
structure CopL (B : Nat) (w : World) (D O : List IT) : Prop where
  map : O.map IT.m = D.map IT.m
  own : ∀ y ∈ O, Own B 5 w y.v y.m.b
theorem copL_nil (B : Nat) (w : World) : CopL B w [] [] := ⟨rfl, fun y h => (by cases h)⟩
theorem Own.cells5 {B : Nat} {w : World} {v : Value} {l : List Int} (h : Own B 5 w v l) {b : Nat} (hb : v.ownBlock = some b) : ∃ cs z, w.heap[b]? = some (.cells cs 5 z) := by
  rcases h.2.2 with ⟨rfl, _⟩ | ⟨g, cap, cur, rfl, _, hg, _⟩
  · cases hb
  · have e1 : g = b := by simpa [Value.ownBlock] using hb
    subst e1
    exact ⟨_, _, hg⟩
theorem Own.belowB {B : Nat} {w w' : World} {v : Value} {l : List Int} (h : Own B 5 w v l) (hb : Below w.heap.size w w') : Own B 5 w' v l := ⟨h.1, ownsRow_block h.2 fun k hk => hb.block _ (h.2.lt k hk).2⟩
theorem Own.pastRow {B : Nat} {w w' : World} {v : Value} {l : List Int} {row : Option Nat} (h : Own B 5 w v l) (hg : w.grownBy w' row) (hn : ∀ k, row = some k → ∀ cs z, w.heap[k]? ≠ some (.cells cs 5 z)) : Own B 5 w' v l :=
  ⟨h.1, ownsRow_block h.2 fun k hk => hg.block _ (h.2.lt k hk).2 fun e => by
    obtain ⟨cs, z, hc⟩ := h.cells5 hk
    exact hn k e.symm cs z hc⟩
theorem CopL.below {B : Nat} {w w' : World} {D O : List IT} (h : CopL B w D O) (hb : Below w.heap.size w w') : CopL B w' D O := ⟨h.map, fun y hy => (h.own y hy).belowB hb⟩
theorem CopL.pastIt {B r : Nat} {mo : Option Nat} {w w' : World} {L done D O : List IT} (h : CopL B w D O) (hi : ItT w mo r L done) (hg : w.grownBy w' (some r)) : CopL B w' D O :=
  ⟨h.map, fun y hy => (h.own y hy).pastRow hg fun k hk cs z hc => by cases hk; exact (hi.nocells hc).2 rfl⟩
theorem OwnP.pastIt {B r : Nat} {mo : Option Nat} {w w' : World} {L done : List IT} {v : Value} {O : List IT} (h : OwnP B w v O) (hi : ItT w mo r L done) (hg : w.grownBy w' (some r)) : OwnP B w' v O :=
  ⟨ownsRow_block h.own fun k hk => hg.block _ (h.own.lt k hk).2 fun e => by
    obtain ⟨cs, z, hc⟩ := h.cells hk
    cases e
    exact (hi.nocells hc).2 rfl, h.new⟩
theorem not5 {w : World} {v : Value} {B : Nat} {O : List IT} (h : OwnP B w v O) : ∀ k, v.ownBlock = some k → ∀ cs z, w.heap[k]? ≠ some (.cells cs 5 z) := fun k hk cs z hc => by
  obtain ⟨cs', z', hc'⟩ := h.cells hk
  rw [hc] at hc'
  cases hc'
theorem CopL.kept {B : Nat} {w w' : World} {v : Value} {D O P : List IT} (h : CopL B w D O) (hg : w.grownBy w' v.ownBlock) (ho : OwnP B w v P) : ∀ y ∈ O, Own B 5 w' y.v y.m.b := fun y hy => (h.own y hy).pastRow hg (not5 ho)
theorem CopL.kept8 {B : Nat} {w w' : World} {v : Value} {D O P : List IT} (h : CopL B w D O) (hg : w.grownBy w' v.ownBlock) (ho : OwnP B w v P) : CopL B w' D O := ⟨h.map, h.kept hg ho⟩
theorem CopL.snoc {B : Nat} {w : World} {D O : List IT} {x y : IT} (h : CopL B w D O) (hm : y.m = x.m) (ho : Own B 5 w y.v y.m.b) : CopL B w (D ++ [x]) (O ++ [y]) :=
  ⟨by rw [List.map_append, List.map_append, h.map]; simp [hm], fun z hz => by
    rcases List.mem_append.1 hz with h1 | h1
    · exact h.own z h1
    · rw [List.mem_singleton.1 h1]; exact ho⟩
/-- What those answers: copies of the items that are wanted, in order. -/
def ThoseAns (w : World) (L : List IT) (f : IM → Bool) (e : Ending) (w' : World) : Prop := ∃ v O, e = .returned v ∧ OwnP w.heap.size w' v O ∧ O.map IT.m = (L.map IT.m).filter f ∧ (∀ y ∈ O, Own w.heap.size 5 w' y.v y.m.b) ∧ Below w.heap.size w w'
section
variable {w : World} {tb : Nat} {mo : Option Nat} {L : List IT}
theorem any41 (x : IT) (w : World) : Calls Tryz.prog 32 #[iv x] w fun e w' => e = .returned (.bool (anyI x.m)) ∧ Below w.heap.size w w' := by
  go_enter Tryz.func32, Tryz.ntmps32
  go_wp2_with (refine wpList_okw rfl (exec_box35 (q := x) (.tmp 0) rfl rfl) ?_)
  go_ret
  exact ⟨rfl, balloc (Below.refl _ _) _⟩
set_option maxHeartbeats 8000000 in
theorem those40a (h : PTr w tb mo L) (few : L.length ≤ 500) (f : IM → Bool) (hf : ∀ (x : IT) (w' : World), Below w.heap.size w w' → Calls Tryz.prog 32 #[iv x] w' fun e w'' => e = .returned (.bool (f x.m)) ∧ Below w'.heap.size w' w'') :
    Calls Tryz.prog 31 #[ptr tb, .func (.func 32) #[] #[]] w (ThoseAns w L f) := by
  have HH : Hid (PTr w tb mo L) := h
  have HW : Hid (∀ (x : IT) (w' : World), Below w.heap.size w w' → Calls Tryz.prog 32 #[iv x] w' fun e w'' => e = .returned (.bool (f x.m)) ∧ Below w'.heap.size w' w'') := hf
  have HFew : Hid (L.length ≤ 500) := few
  have t0 := h.blk.cell 0 _ rfl
  obtain ⟨w1, hrun, hit, hg1, hs1⟩ := h.range
  have HRUN : Hid ((Instr.range 89 (.map mo)).run Tryz.prog w = .ok (.pointer (some ⟨w.heap.size, 0, none⟩)) w1) := hrun
  have HIT1 : Hid (ItT w1 mo w.heap.size L []) := hit
  have HB1 : Hid (Below w.heap.size w w1) := grown_below hg1
  obtain ⟨r, hr⟩ : ∃ r, r = w.heap.size := ⟨_, rfl⟩
  have HR : Hid (w.heap.size ≤ r) := by show _ ≤ _; omega
  rw [← hr] at HIT1 HRUN
  clear h few hf hrun hit hg1 hs1
  go_enter Tryz.func31, Tryz.ntmps31
  go_upto_region 4 with fail
  go_wp2_with (refine wpList_okw rfl (exec_range (mo := mo) (.tmp 13) rfl rfl HRUN.out) ?_)
  go_frame
  clear hr HRUN t0
  go_loopw [5] (fun v wr => ∃ done O, Hid (ItT wr mo r L done) ∧ Hid (OwnP w.heap.size wr v O) ∧ Hid (CopL w.heap.size wr (done.filter fun x => f x.m) O) ∧ Hid (Below w.heap.size w wr)) (fun _ wr => itLeft wr mo r)
  case atStart => exact ⟨[], [], HIT1, ownP_nil _ _, copL_nil _ _, HB1⟩
  case round =>
    obtain ⟨done, O, HIT, HO, HC, HB⟩ := hrel
    clear HIT1 HB1
    rename World => wr
    have hokL := HH.out.okL
    have hsrt := HH.out.srt
    rcases HIT.out.next hokL hsrt 0 with ⟨hall, hrun⟩ | ⟨x, w2, hx, hnx, hrun, hit2, hlt, hg2, hsz, hen⟩
    · have HRUN : Hid ((Instr.next (.pointer (some ⟨r, 0, none⟩)) false 0).run Tryz.prog wr = .ok (.tuple #[.bool false]) wr) := hrun
      have HPM : Hid (O.map IT.m = (done.filter fun x => f x.m).map IT.m) := HC.out.map
      have hdp : done.Perm L := HIT.out.perm hsrt hall
      have HDP : Hid ((done.filter fun x => f x.m).Perm (L.filter fun x => f x.m)) := hdp.filter _
      have hnod : (O.map fun x => x.m.n).Nodup := by
        have h1 : (O.map fun x => x.m.n) = ((done.filter fun x => f x.m).map fun x => x.m.n) := by
          have := congrArg (List.map IM.n) HPM.out
          rw [List.map_map, List.map_map] at this
          exact this
        rw [h1]
        exact ((HDP.out.map _).nodup_iff).2 (nodes_nodup hsrt)
      have hfewO : O.length ≤ 100000 := by
        have h1 := congrArg List.length HPM.out
        have h2 := HDP.out.length_eq
        have h3 := List.length_filter_le (fun x : IT => f x.m) L
        have h4 := HFew.out
        rw [List.length_map, List.length_map] at h1
        omega
      have hso := sort64 w.heap.size wr _ O HO.out hfewO hnod
      have HS : Hid (Calls Tryz.prog 49 #[_, .func (.func 50) #[] #[]] wr fun e w' => e = .returned (.tuple #[]) ∧ ∃ O', OwnP w.heap.size w' _ O' ∧ O'.Perm O ∧ SrtI (O'.map IT.m) ∧ wr.grownBy w' _) := hso
      clear hokL hall hrun hnod hfewO hdp hso
      have tk1 : Hid True := trivial
      go_wp2_with (first
        | (clear tk1; refine wpList_okw rfl (exec_next (.tmp 14) rfl rfl HRUN.out) ?_)
        | (go_at_call 49; go_must (refine HS.out.mono ?_; rintro e w5 ⟨rfl, O', ho', hp', hs', hg5⟩; have HO5 : Hid (OwnP w.heap.size w5 _ O') := ho'; have HP5 : Hid (O'.Perm O) := hp'; have HS5 : Hid (SrtI (O'.map IT.m)) := hs'; have HG5 : Hid (wr.grownBy w5 _) := hg5; clear ho' hp' hs' hg5)))
      go_ret
      refine ⟨_, O', rfl, HO5.out, ?_, fun y hy => ?_, HB.out.grown HG5.out HB.out.size HO.out.new⟩
      · have h1 : (O'.map IT.m).Perm ((L.filter fun x => f x.m).map IT.m) := (HP5.out.map _).trans (by rw [HPM.out]; exact HDP.out.map _)
        rw [filter_bare] at h1
        exact srtI_perm HS5.out (hsrt.filter _) h1
      · exact HC.out.kept HG5.out HO.out y (HP5.out.mem_iff.1 hy)
    · have HRUN : Hid ((Instr.next (.pointer (some ⟨r, 0, none⟩)) false 0).run Tryz.prog wr = .ok (.tuple #[.bool true, sv x.m.n, iv x]) w2) := hrun
      have HEN : Hid ((Instr.entry (.pointer (some ⟨r, 0, none⟩))).run Tryz.prog w2 = .ok (.tuple #[sv x.m.n, iv x]) w2) := hen
      have HIT2 : Hid (ItT w2 mo r L (done ++ [x])) := hit2
      have HX : Hid (x ∈ L) := hx
      have HLT : Hid (itLeft w2 mo r < itLeft wr mo r) := hlt
      have HB2 : Hid (Below w.heap.size w w2) := bgrown HB.out HR.out hg2
      have HO2 : Hid (OwnP w.heap.size w2 _ O) := HO.out.pastIt HIT.out hg2
      have HC2 : Hid (CopL w.heap.size w2 (done.filter fun x => f x.m) O) := HC.out.pastIt HIT.out hg2
      have hfewO : O.length ≤ 500 := by
        have h1 := congrArg List.length HC.out.map
        have h2 := List.length_filter_le (fun x : IT => f x.m) done
        have h3 := HIT.out.few hsrt
        have h4 := HFew.out
        rw [List.length_map, List.length_map] at h1
        omega
      clear hokL hsrt hx hnx hrun hit2 hlt hg2 hsz hen HIT HO HC HB
      obtain ⟨w3, hw3⟩ : ∃ w3, w3 = w2.alloc (.cells (ic zT).toArray 61) := ⟨_, rfl⟩
      obtain ⟨g, hg⟩ : ∃ g, g = w2.heap.size := ⟨_, rfl⟩
      obtain ⟨w4, hw4⟩ : ∃ w4, w4 = w3.setCells g 0 (ic x) := ⟨_, rfl⟩
      obtain ⟨j1, j2, j3, j4⟩ := item_putp HB2.out hw3 hg hw4
      have HT3 : Hid (w3.there g 0 10) := (show _ from by rw [hw3, hg]; exact (itp_new w2 zT).there)
      have HI4 : Hid (Itp w4 g x) := j1
      have HB4 : Hid (Below w.heap.size w w4) := j2
      have HB24 : Hid (Below w2.heap.size w2 w4) := j3
      have HW3 : Hid (w3 = w2.alloc (.cells (ic zT).toArray 61)) := hw3
      have HGG : Hid (g = w2.heap.size) := hg
      have HW4 : Hid (w4 = w3.setCells g 0 (ic x)) := hw4
      clear j1 j2 j3 j4 hw3 hg hw4
      have HI4r : Hid (w4.rangeAt g 0 (ic x)) := HI4.out.range
      generalize hfx : f x.m = fx
      have HFX : Hid (f x.m = fx) := hfx
      clear hfx
      have tk1 : Hid True := trivial
      have tk2 : Hid True := trivial
      have tk3 : Hid True := trivial
      have tk4 : Hid True := trivial
      cases fx
      · go_wp2_with (first
          | (clear tk1; refine wpList_okw rfl (exec_next (.tmp 14) rfl rfl HRUN.out) ?_)
          | (clear tk2; refine wpList_okw rfl (exec_entry (.tmp 14) rfl rfl HEN.out) ?_)
          | (clear tk3; refine wpList_okw rfl (exec_alloc35 rfl) ?_; rw [← HW3.out, ← HGG.out])
          | (clear tk4; refine wpList_skipw rfl (exec_store35 (q := x) (.tmp 7) (.tmp 18) rfl rfl rfl HT3.out) ?_; rw [← HW4.out])
          | (refine wpList_okw rfl (exec_load35 (q := x) (.tmp 7) rfl rfl HI4r.out) ?_)
          | (go_at_call 32; go_must (refine (HW.out x _ HB4.out).mono ?_; rintro e w5 ⟨rfl, hb5⟩; have HB5 : Hid (Below w4.heap.size w4 w5) := hb5; clear hb5; rw [HFX.out])))
        have hb25 := bnext HB24.out HB5.out
        go_roundw
        case rel => exact ⟨done ++ [x], O, (HIT2.out.below hb25).1, HO2.out.below hb25, by show CopL _ _ _ _; rw [List.filter_append, List.filter_cons_of_neg (by rw [HFX.out]; simp), List.filter_nil, List.append_nil]; exact HC2.out.below hb25, bnext HB2.out hb25⟩
        case measure => rw [(HIT2.out.below hb25).2]; exact HLT.out
      · go_upto_region 8 with (first
          | (clear tk1; refine wpList_okw rfl (exec_next (.tmp 14) rfl rfl HRUN.out) ?_)
          | (clear tk2; refine wpList_okw rfl (exec_entry (.tmp 14) rfl rfl HEN.out) ?_)
          | (clear tk3; refine wpList_okw rfl (exec_alloc35 rfl) ?_; rw [← HW3.out, ← HGG.out])
          | (clear tk4; refine wpList_skipw rfl (exec_store35 (q := x) (.tmp 7) (.tmp 18) rfl rfl rfl HT3.out) ?_; rw [← HW4.out])
          | (refine wpList_okw rfl (exec_load35 (q := x) (.tmp 7) rfl rfl HI4r.out) ?_)
          | (go_at_call 32; go_must (refine (HW.out x _ HB4.out).mono ?_; rintro e w5 ⟨rfl, hb5⟩; have HB5 : Hid (Below w4.heap.size w4 w5) := hb5; clear hb5; rw [HFX.out])))
        have HB25 : Hid (Below w2.heap.size w2 w5) := bnext HB24.out HB5.out
        have HBw5 : Hid (Below w.heap.size w w5) := bnext HB2.out HB25.out
        have HI5r : Hid (w5.rangeAt g 0 (ic x)) := Itp.range (HI4.out.below HB5.out)
        have HCo : Hid (Calls Tryz.prog 41 #[iv x] w5 fun e w' => ∃ y, e = .returned (iv y) ∧ CopyT w5.heap.size w' x y ∧ Below w5.heap.size w5 w') := copied43 x ((HH.out.rd x HX.out).below HBw5.out) (HH.out.ok x HX.out).2.2
        have tk5 : Hid True := trivial
        have tk6 : Hid True := trivial
        have tk7 : Hid True := trivial
        go_wp2_with (first
          | (clear tk5; refine wpList_okw rfl (exec_load35 (q := x) (.tmp 7) rfl rfl HI5r.out) ?_)
          | (go_at_call 41; go_must (refine HCo.out.mono ?_; rintro e w6 ⟨y, rfl, hcp, hb6⟩; have HCP : Hid (CopyT w5.heap.size w6 x y) := hcp; have HB26 : Hid (Below w2.heap.size w2 w6) := bnext HB25.out hb6; clear hcp hb6; obtain ⟨w7, hw7⟩ : ∃ w7, w7 = w6.alloc (.cells (ic y).toArray 61) := ⟨_, rfl⟩; obtain ⟨p7, hp7⟩ : ∃ p7, p7 = w6.heap.size := ⟨_, rfl⟩; have HW7 : Hid (w7 = w6.alloc (.cells (ic y).toArray 61)) := hw7; have HP7 : Hid (p7 = w6.heap.size) := hp7; have HRW : Hid (RowF ic w7 (.slice (some ⟨p7, 0, none⟩) 1 1) [y]) := (show RowF _ _ _ _ from by rw [hw7, hp7]; exact rowF_one w6 y 61); have HB67 : Hid (Below w6.heap.size w6 w7) := (show Below _ _ _ from by rw [hw7]; exact balloc (Below.refl _ _) _); clear hw7 hp7; have HO7 : Hid (OwnP w.heap.size w7 _ O) := HO2.out.below (bnext HB26.out HB67.out); have HBw7 : Hid (Below w.heap.size w w7) := bnext HB2.out (bnext HB26.out HB67.out)))
          | (clear tk6; refine wpList_okw rfl (exec_build35 (q := y) (.tmp 24) rfl rfl) ?_; rw [← HW7.out, ← HP7.out])
          | (clear tk7; refine wpList_app35 rfl (.tmp 22) (.tmp 25) rfl _ O rfl HO7.out _ y rfl HRW.out (by omega) HBw7.out ?_; intro v8 w8 ho8 hb8 hg8; have HO8 : Hid (OwnP w.heap.size w8 v8 (O ++ [y])) := ho8; have HB8 : Hid (Below w.heap.size w w8) := hb8; have HG8 : Hid (w7.grownBy w8 _) := hg8; clear ho8 hb8 hg8))
        have hb27 := bnext HB26.out HB67.out
        have hI7 := HIT2.out.below hb27
        have hI8 := hI7.1.kept HG8.out (fun k hk => by obtain ⟨cs, z, hc⟩ := HO7.out.cells hk; exact hI7.1.nocells hc)
        go_roundw
        case rel =>
          refine ⟨done ++ [x], O ++ [y], hI8.1, HO8, ?_, HB8⟩
          show CopL _ _ _ _
          rw [List.filter_append, List.filter_cons_of_pos (by rw [HFX.out]), List.filter_nil]
          exact (CopL.snoc (HC2.out.below hb27) (HCP.out.m) ((HCP.out.own.lower HBw5.out.size).belowB HB67.out)).kept8 HG8.out HO7.out
        case measure => rw [hI8.2, hI7.2]; exact HLT.out
theorem all17 (h : PTr w tb mo L) (few : L.length ≤ 500) : Calls Tryz.prog 16 #[ptr tb] w (ThoseAns w L anyI) := by
  have HT : Hid (Calls Tryz.prog 31 #[ptr tb, .func (.func 32) #[] #[]] w (ThoseAns w L anyI)) := those40a h few anyI fun x w' hb => any41 x w'
  clear h few
  go_enter Tryz.func16, Tryz.ntmps16
  go_wp2_with (go_at_call 31; go_must (refine HT.out.mono ?_; rintro e w2 ⟨v, O, rfl, h1, h2, h3, h4⟩))
  go_ret
  exact ⟨v, O, rfl, h1, h2, h3, h4⟩
end
end Go.Proofs.YthnjbjlhfohpfaaGreat
