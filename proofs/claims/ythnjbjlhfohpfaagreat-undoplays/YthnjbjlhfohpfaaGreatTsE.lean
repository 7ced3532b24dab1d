/-
  Items of the program in a row that the call made; put in order.
-/
import Derived.Test.YthnjbjlhfohpfaaGreatTrZ
import Derived.Test.YthnjbjlhfohpfaaGreatLaid
import Derived.Test.YthnjbjlhfohpfaaGreatTrP
namespace Go.Proofs.YthnjbjlhfohpfaaGreat
set_option linter.unusedVariables false
set_option linter.unusedSimpArgs false
set_option synthInstance.maxSize 20000
set_option maxHeartbeats 2000000
set_option maxRecDepth 20000
open Go.RowKit Go.Maps

theorem byNode65 (x y : IT) (w : World) : Calls Tryz.prog 50 #[iv x, iv y] w fun e w' => e = .returned (.int .i64 (cmpS x.m.n y.m.n)) ∧ ∃ q os', w' = Go.Sort.grow (w.drewN q) os' := by
  have hc := fun w' => compare_any x.m.n y.m.n w'
  obtain ⟨w1, hw1⟩ : ∃ w1, w1 = (w.alloc (.cells (ic x).toArray 61)).alloc (.cells (ic y).toArray 61) := ⟨_, rfl⟩
  obtain ⟨B0, hB0⟩ : ∃ B0, B0 = w.heap.size := ⟨_, rfl⟩
  obtain ⟨B1, hB1⟩ : ∃ B1, B1 = w.heap.size + 1 := ⟨_, rfl⟩
  have HX : Hid (w1.rangeAt B0 0 (sc x.m.n)) := by
    show World.rangeAt _ _ _ _
    rw [hw1, hB0]
    exact Itp.node (Blk.alloc (itp_new w x) _)
  have HY : Hid (w1.rangeAt B1 0 (sc y.m.n)) := by
    show World.rangeAt _ _ _ _
    rw [hw1, hB1]
    have := itp_new (w.alloc (.cells (ic x).toArray 61)) y
    exact Itp.node (by simpa using this)
  have HW : Hid (w1 = Go.Sort.grow w #[.cells (ic x).toArray 61, .cells (ic y).toArray 61]) := by
    show _ = _
    rw [hw1, Go.Sort.alloc_eq_grow, Go.Sort.alloc_eq_grow, Go.Sort.grow_grow]
    rfl
  go_enter Tryz.func50, Tryz.ntmps50
  go_upto_region 1 with (first | (refine wpList_okw rfl (exec_box35 (q := x) (.tmp 0) rfl rfl) ?_) | (refine wpList_okw rfl (exec_box35 (q := y) (.tmp 1) rfl rfl) ?_))
  rw [show (Value.pointer (some { block := w.heap.size + 1, off := 0 })) = ptr B1 from by rw [hB1]]
  rw [← hw1]
  rw [← hB0]
  clear hw1 hB0 hB1
  go_wp2_with (first
    | (refine wpList_okw rfl (exec_load24n (n := x.m.n) (.tmp 5) rfl rfl HX.out) ?_)
    | (refine wpList_okw rfl (exec_load24n (n := y.m.n) (.tmp 7) rfl rfl HY.out) ?_)
    | (go_at_call 57; go_must (refine (hc _).mono ?_; rintro r w2 ⟨rfl, q, os', rfl⟩)))
  go_ret
  refine ⟨rfl, q, #[.cells (ic x).toArray 61, .cells (ic y).toArray 61] ++ os', ?_⟩
  rw [HW.out, ← Go.Sort.grow_grow]
  rfl
/-- A row of items of the program that the call made (blocks from B on). -/
structure OwnP (B : Nat) (w : World) (v : Value) (O : List IT) : Prop where
  own : w.ownsRow 0 61 10 v O.length (flat ic O)
  new : ∀ k, v.ownBlock = some k → B ≤ k
theorem OwnP.row {B : Nat} {w : World} {v : Value} {O : List IT} (h : OwnP B w v O) : RowF ic w v O := rowF_own ic_len h.own
theorem OwnP.below {B : Nat} {w w' : World} {v : Value} {O : List IT} (h : OwnP B w v O) (hb : Below w.heap.size w w') : OwnP B w' v O := ⟨ownsRow_block h.own fun k hk => hb.block _ (h.own.lt k hk).2, h.new⟩
theorem ownP_nil (B : Nat) (w : World) : OwnP B w (.slice none 0 0) [] := ⟨World.ownsRow_nil _ _ _ _, fun k hk => by cases hk⟩
theorem OwnP.cells {B : Nat} {w : World} {v : Value} {O : List IT} (h : OwnP B w v O) {b : Nat} (hb : v.ownBlock = some b) : ∃ cs z, w.heap[b]? = some (.cells cs 61 z) := by
  rcases h.own.2 with ⟨rfl, _⟩ | ⟨g, cap, cur, rfl, _, hg, _⟩
  · cases hb
  · have e1 : g = b := by simpa [Value.ownBlock] using hb
    subst e1
    exact ⟨_, _, hg⟩
/-- 'append(out, x)' of items onto a row that the call made. -/
theorem wpList_app35 {ops : Array Oper} {rest : List Oper} {o : Oper} {a : Act} {Q : Exit → Act → World → Prop} {w w0 : World} (hgd : o.guard = none) (s x : Operand) (ho : o.op = .call { callee := .builtin .append, args := #[s, x], argTypes := #[49, 49] })
    (v : Value) (O : List IT) (hs : a.eval s = v) (hown : OwnP w0.heap.size w v O) (y : Value) (q : IT) (hx : a.eval x = y) (hy : RowF ic w y [q]) (hlen : O.length ≤ 100000) (hb : Below w0.heap.size w0 w)
    (h : ∀ v' w', OwnP w0.heap.size w' v' (O ++ [q]) → Below w0.heap.size w0 w' → w.grownBy w' v.ownBlock → wpList Tryz.prog ops Q rest (a.put o.dst v') w') : wpList Tryz.prog ops Q (o :: rest) a w :=
  wpList_append_rows ty48 ic_len (by omega) hgd s x ho v O hs hown.own y [q] hx hy (flat_ic_one _) (by simp; omega) fun v' w' h1 h2 h3 => h v' w' ⟨h1, new_of hown.new hb.size h3⟩ (hb.grown h2 hb.size hown.new) h2
section
open Go.Sort Go.Lib Go.Shelf
theorem flatK_ic {α : Type} [Inhabited α] (f : α → IT) (l : List α) : flatK (fun x => ic (f x)) 10 l.toArray = (flat ic (l.map f)).toArray := by
  have hlen : (flat ic (l.map f)).length = l.length * 10 := by rw [flat_length ic_len, List.length_map]
  apply Array.ext
  · simp [hlen]
  · intro t h1 h2
    have ht : t < l.toArray.size * 10 := by simpa using h1
    have ht' : t < l.length * 10 := by simpa using ht
    have e := get_flatK (fun x => ic (f x)) 10 l.toArray t ht
    rw [getElem!_pos _ t h1] at e
    rw [e]
    have hi : t / 10 < l.length := by omega
    have hg : l.toArray[t / 10]! = l[t / 10] := by
      rw [getElem!_pos _ _ (by simpa using hi)]
      simp
    rw [hg]
    have hx : (l.map f)[t / 10]? = some (f l[t / 10]) := by simp [hi]
    have hm : t % 10 < (ic (f l[t / 10])).length := by rw [ic_len]; omega
    have hk := flat_at ic_len hx (t % 10) _ (List.getElem?_eq_getElem hm)
    have hdm : t / 10 * 10 + t % 10 = t := by omega
    rw [hdm] at hk
    have hc : (flat ic (l.map f)).toArray[t]? = some (flat ic (l.map f)).toArray[t] := Array.getElem?_eq_getElem h2
    rw [List.getElem?_toArray, hk] at hc
    rw [getElem!_pos (ic (f l[t / 10])) (t % 10) hm]
    exact Option.some.inj hc
theorem grown_putI {w : World} {g n : Nat} {os : Array Obj} (F : Array Value) : w.grownBy (grow (putRow id (Sort.ahead w n) g 0 F) os) (some g) := by
  refine ⟨rfl, rfl, rfl, by simp [putRow, mapBlock, Sort.ahead], fun k hk hne => ?_⟩
  rw [heap_grow_old _ _ (by simpa [putRow, mapBlock, Sort.ahead] using hk)]
  have : g ≠ k := fun e => hne (by rw [e])
  simp [putRow, mapBlock, Sort.ahead, Array.getElem?_modify, this]
theorem heap_putI {w : World} {g n : Nat} {os : Array Obj} {cur : Array Value} {e : TypeId} (F : Array Value) (hb : w.heap[g]? = some (.cells cur e (0, 0))) : (grow (putRow id (Sort.ahead w n) g 0 F) os).heap[g]? = some (.cells (putCells id 0 F cur) e (0, 0)) := by
  have hlt := (Array.getElem?_eq_some_iff.1 hb).1
  rw [heap_grow_old _ _ (by simpa [putRow, mapBlock, Sort.ahead] using hlt)]
  simp [putRow, mapBlock, Sort.ahead, Array.getElem?_modify, hb, onCells]
theorem take_putI (cur : Array Value) (ts : List Value) (h : ts.length ≤ cur.size) : (putCells id 0 ts.toArray cur).toList.take ts.length = ts := by
  apply List.ext_getElem?
  intro j
  by_cases hj : j < ts.length
  · rw [List.getElem?_take_of_lt hj, Array.getElem?_toList]
    simp [putCells, hj, show j < cur.size by omega]
  · rw [List.getElem?_take_eq_none (by omega), List.getElem?_eq_none (by omega)]
theorem ltOf_node {α : Type} (f : α → S) (x y : α) : ltOf (fun x y => cmpS (f x) (f y)) x y = decide (ltP (f x) (f y)) := by
  unfold ltOf
  rw [decide_eq_decide]
  exact cmpS_neg (f x) (f y)
theorem swo_node {α : Type} (f : α → S) : SWO (ltOf fun x y : α => cmpS (f x) (f y)) where
  irrefl x := by rw [ltOf_node]; simp
  trans x y z h1 h2 := by
    rw [ltOf_node] at *
    simp only [decide_eq_true_eq] at *
    exact ltP_trans h1 h2
  ntrans x y z h1 h2 := by
    rw [ltOf_node] at *
    simp only [decide_eq_false_iff_not] at *
    unfold ltP at *
    omega
theorem sort64 (B : Nat) (w : World) (v : Value) (O : List IT) (h : OwnP B w v O) (hl : O.length ≤ 100000) (hd : (O.map fun x => x.m.n).Nodup) :
    Calls Tryz.prog 49 #[v, .func (.func 50) #[] #[]] w fun e w' => e = .returned (.tuple #[]) ∧ ∃ O', OwnP B w' v O' ∧ O'.Perm O ∧ SrtI (O'.map IT.m) ∧ w.grownBy w' v.ownBlock := by
  have hown := h.own
  rcases hown.2 with ⟨rfl, hn⟩ | ⟨g, cap, cur, rfl, hb, hg, hn, hc, hs, ht⟩
  · have : O = [] := List.eq_nil_of_length_eq_zero hn
    subst this
    refine (AnyF.slices_SortFunc_none Tryz.sortI none 0 _ w).mono ?_
    rintro e w' ⟨rfl, rfl⟩
    exact ⟨rfl, [], h, List.Perm.refl _, List.Pairwise.nil, grown_refl _ _⟩
  · cases hO : O with
    | nil =>
      subst hO
      refine (AnyF.slices_SortFunc_none Tryz.sortI (some ⟨g, 0, none⟩) cap _ w).mono ?_
      rintro e w' ⟨rfl, rfl⟩
      exact ⟨rfl, [], h, List.Perm.refl _, List.Pairwise.nil, grown_refl _ _⟩
    | cons x0 O0 =>
      rw [← hO]
      have hx0 : x0 ∈ O := by rw [hO]; simp
      have inh : Inhabited {x : IT // x ∈ O} := ⟨⟨x0, hx0⟩⟩
      have huniq : ∀ x ∈ O, ∀ y ∈ O, x.m.n = y.m.n → x = y := fun x hx y hy e => by
        rw [List.Nodup, List.pairwise_map] at hd
        obtain ⟨i, hi⟩ := List.getElem?_of_mem hx
        obtain ⟨j, hj⟩ := List.getElem?_of_mem hy
        obtain ⟨hi1, hi2⟩ := List.getElem?_eq_some_iff.1 hi
        obtain ⟨hj1, hj2⟩ := List.getElem?_eq_some_iff.1 hj
        rcases Nat.lt_trichotomy i j with h1 | h1 | h1
        · have := List.pairwise_iff_getElem.1 hd i j hi1 hj1 h1
          rw [hi2, hj2] at this; exact absurd e this
        · subst h1; rw [← hi2, ← hj2]
        · have := List.pairwise_iff_getElem.1 hd j i hj1 hi1 h1
          rw [hi2, hj2] at this; exact absurd e.symm this
      have hmap : O.attach.map (fun x => x.1) = O := by simp
      have hsz : O.attach.toArray.size = O.length := by simp
      have hcells : ∀ j, j < O.length * 10 → w.cell? ⟨g, j, none⟩ = some ((flat ic O)[j]!) := fun j hj => by
        have hj' : j < (flat ic O).length := by rw [flat_length ic_len]; exact hj
        rw [getElem!_pos _ j hj']
        have := hown.cells (g := g) rfl j _ (List.getElem?_eq_getElem hj')
        rwa [Addr.add_lit, Nat.zero_add] at this
      have hH : HoldsK (fun x : {x : IT // x ∈ O} => ic x.1) 10 w g 0 O.attach.toArray := by
        intro j hj
        rw [flatK_ic, hmap] at hj ⊢
        have hj' : j < O.length * 10 := by simpa [flat_length ic_len] using hj
        refine ⟨?_, ?_⟩
        · rw [Nat.zero_add, hcells j hj']
          simp [getElem!_pos, flat_length ic_len, hj']
        · rw [Nat.zero_add]
          simp [World.frozen?, hg]
      have eg : ∀ args w, (callFunc 50 args).run Tryz.prog w = .ok (.enter 50 args) w := enters_of Tryz.func50 (by kernel_rfl) rfl
      have hcmp : CmpLays Tryz.prog 50 #[] (fun x : {x : IT // x ∈ O} => ic x.1) 10 (fun x y => cmpS x.1.m.n y.1.m.n) g 0 O.attach.toArray.size w := fun _ _ _ _ x y => byNode65 x.1 y.1 _
      have hcon := AnyQ.slices_SortFunc_total Tryz.sortI 10 Tryz.isAgg61 Tryz.sizeOf61 (fun x : {x : IT // x ∈ O} => ic x.1) (fun x => ic_len x.1) (fun x v hv => ic_one x.1 v hv) (fun x y => cmpS x.1.m.n y.1.m.n) (swo_node fun x : {x : IT // x ∈ O} => x.1.m.n) 50 #[] g 0 cap O.attach.toArray w eg hcmp hH (Array.getElem?_eq_some_iff.1 hg).1 (by rw [hsz]; omega) (fun x y h1 h2 => by
        rw [ltOf_node] at h1 h2
        exact Subtype.ext (huniq x.1 x.2 y.1 y.2 (ltP_total (of_decide_eq_false h1) (of_decide_eq_false h2))))
      change Calls Tryz.prog 49 _ _ _ at hcon
      rw [hsz] at hcon
      refine hcon.mono ?_
      rintro e w' ⟨rfl, n, os, rfl⟩
      obtain ⟨M, hM⟩ : ∃ M, M = (O.attach.toArray.toList.mergeSort fun x y => !(ltOf fun x y : {x : IT // x ∈ O} => cmpS x.1.m.n y.1.m.n) y x) := ⟨_, rfl⟩
      rw [← hM]
      have hperm : M.Perm O.attach := by rw [hM]; simpa using List.mergeSort_perm _ _
      have hperm2 : (M.map fun x => x.1).Perm O := by
        have := hperm.map (fun x => x.1)
        rwa [hmap] at this
      have hlen : (M.map fun x => x.1).length = O.length := hperm2.length_eq
      have e1 : flatK (fun x : {x : IT // x ∈ O} => ic x.1) 10 M.toArray = (flat ic (M.map fun x => x.1)).toArray := flatK_ic _ _
      unfold sortWorldK putRowK
      rw [e1]
      have hfl : (flat ic (M.map fun x => x.1)).length = O.length * 10 := by rw [flat_length ic_len, hlen]
      refine ⟨rfl, M.map fun x => x.1, ⟨⟨by rw [flat_length ic_len], .inr ⟨g, cap, _, by rw [hlen], hb, heap_putI _ hg, by rw [hlen]; exact hn, hc, by simp [putCells, hs], ?_⟩⟩, h.new⟩, hperm2, ?_, grown_putI _⟩
      · have := take_putI cur (flat ic (M.map fun x => x.1)) (by rw [hfl, hs]; omega)
        rw [hfl] at this
        rw [hlen]
        exact this
      · have hsorted : M.Pairwise fun x y => (!(ltOf fun x y : {x : IT // x ∈ O} => cmpS x.1.m.n y.1.m.n) y x) = true := by
          rw [hM]
          refine List.pairwise_mergeSort (le := fun x y => !(ltOf fun x y : {x : IT // x ∈ O} => cmpS x.1.m.n y.1.m.n) y x) (fun a b c h1 h2 => ?_) (fun a b => ?_) _
          · rw [ltOf_node, Bool.not_eq_true', decide_eq_false_iff_not] at *
            unfold ltP at *
            omega
          · rw [ltOf_node, ltOf_node]
            by_cases h1 : ltP b.1.m.n a.1.m.n
            · have h2 : ¬ ltP a.1.m.n b.1.m.n := fun h => ltP_irrefl _ (ltP_trans h1 h)
              rw [decide_eq_false h2]; simp
            · rw [decide_eq_false h1]; simp
        have hnd : ((M.map fun x => x.1).map fun x => x.m.n).Nodup := (hperm2.map _).nodup_iff.2 hd
        unfold SrtI
        rw [List.map_map, List.pairwise_map]
        rw [List.Nodup, List.map_map, List.pairwise_map] at hnd
        refine (hsorted.and hnd).imp ?_
        rintro x y ⟨h1, h2⟩
        rw [ltOf_node, Bool.not_eq_true', decide_eq_false_iff_not] at h1
        by_cases h3 : ltP x.1.m.n y.1.m.n
        · exact h3
        · exact absurd (ltP_total h3 h1) h2
end
end Go.Proofs.YthnjbjlhfohpfaaGreat
