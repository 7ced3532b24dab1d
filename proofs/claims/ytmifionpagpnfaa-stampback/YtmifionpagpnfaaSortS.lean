/-
  slices.SortFunc over a row of stamps that the call made: the row holds them in order.
-/
import Derived.Test.YtmifionpagpnfaaLaid
import Derived.Test.YtmifionpagpnfaaCmp
import Derived.Test.YtmifionpagpnfaaOwnS
namespace Go.Proofs.Ytmifionpagpnfaa
set_option linter.unusedVariables false
open Go.RowKit Go.Sort Go.Lib Go.Shelf

theorem flat_csS (l : List S) : flatK sc 2 l.toArray = (csS l).toArray := by
  apply Array.ext
  · simp [csS_length]
  · intro t h1 h2
    have ht : t < l.toArray.size * 2 := by simpa using h1
    have ht' : t < l.length * 2 := by simpa using ht
    have e := get_flatK sc 2 l.toArray t ht
    rw [getElem!_pos _ t h1] at e
    rw [e]
    have hk := csS_at l (t / 2) (by omega)
    have hg : l.toArray[t / 2]! = l.getD (t / 2) (0, 0) := by
      rw [getElem!_pos _ _ (by simp; omega), List.getD_eq_getElem?_getD, List.getElem?_eq_getElem (by omega)]
      simp
    rw [hg]
    have hc : (csS l).toArray[t]? = some (csS l).toArray[t] := Array.getElem?_eq_getElem h2
    rw [List.getElem?_toArray] at hc
    rcases Nat.mod_two_eq_zero_or_one t with r | r
    · have : t / 2 * 2 = t := by omega
      rw [this] at hk
      rw [hk.1] at hc
      rw [← Option.some.inj hc, r]
      rfl
    · have : t / 2 * 2 + 1 = t := by omega
      rw [this] at hk
      rw [hk.2] at hc
      rw [← Option.some.inj hc, r]
      rfl

theorem grown_put {w : World} {g n : Nat} {os : Array Obj} (F : Array Value) : w.grownBy (grow (putRow id (Sort.ahead w n) g 0 F) os) (some g) := by
  refine ⟨rfl, rfl, rfl, by simp [putRow, mapBlock, Sort.ahead], fun k hk hne => ?_⟩
  rw [heap_grow_old _ _ (by simpa [putRow, mapBlock, Sort.ahead] using hk)]
  have : g ≠ k := fun e => hne (by rw [e])
  simp [putRow, mapBlock, Sort.ahead, Array.getElem?_modify, this]

theorem heap_put {w : World} {g n : Nat} {os : Array Obj} {cur : Array Value} {e : TypeId} (F : Array Value) (hb : w.heap[g]? = some (.cells cur e (0, 0))) : (grow (putRow id (Sort.ahead w n) g 0 F) os).heap[g]? = some (.cells (putCells id 0 F cur) e (0, 0)) := by
  have hlt := (Array.getElem?_eq_some_iff.1 hb).1
  rw [heap_grow_old _ _ (by simpa [putRow, mapBlock, Sort.ahead] using hlt)]
  simp [putRow, mapBlock, Sort.ahead, Array.getElem?_modify, hb, onCells]

theorem take_put (cur : Array Value) (ts : List Value) (h : ts.length ≤ cur.size) : (putCells id 0 ts.toArray cur).toList.take ts.length = ts := by
  apply List.ext_getElem?
  intro j
  by_cases hj : j < ts.length
  · rw [List.getElem?_take_of_lt hj, Array.getElem?_toList]
    simp [putCells, hj, show j < cur.size by omega]
  · rw [List.getElem?_take_eq_none (by omega), List.getElem?_eq_none (by omega)]

/-- The stamps in order, one that is there twice twice. -/
def inOrd (l : List S) : List S := l.mergeSort fun x y => !(ltOf cmpS) y x

theorem ltOf_cmp (x y : S) : ltOf cmpS x y = decide (ltP x y) := by
  unfold ltOf
  rw [decide_eq_decide]
  exact cmpS_neg x y
theorem swo : SWO (ltOf cmpS) where
  irrefl x := by rw [ltOf_cmp]; simp
  trans x y z h1 h2 := by
    rw [ltOf_cmp] at *
    simp only [decide_eq_true_eq] at *
    exact ltP_trans h1 h2
  ntrans x y z h1 h2 := by
    rw [ltOf_cmp] at *
    simp only [decide_eq_false_iff_not] at *
    unfold ltP at *
    omega
theorem tot (x y : S) (h1 : ltOf cmpS x y = false) (h2 : ltOf cmpS y x = false) : x = y := by
  rw [ltOf_cmp] at *
  simp only [decide_eq_false_iff_not] at *
  exact ltP_total h1 h2

theorem inOrd_len (l : List S) : (inOrd l).length = l.length := List.length_mergeSort l
theorem inOrd_mem (l : List S) (s : S) : s ∈ inOrd l ↔ s ∈ l := List.mem_mergeSort

theorem sortfunc_any (B : Nat) (w : World) (v : Value) (l : List S) (h : OwnS B w v l) (hl : l.length ≤ 1000000) :
    Calls Try.prog 40 #[v, .func (.func 14) #[] #[]] w fun e w' => e = .returned (.tuple #[]) ∧ OwnS B w' v (inOrd l) ∧ w.grownBy w' v.ownBlock := by
  obtain ⟨ho, h1, h2⟩ := id h
  rcases h2 with ⟨rfl, hn⟩ | ⟨g, cap, cur, rfl, hb, hg, hn, hc, hs, ht⟩
  · have : l = [] := List.eq_nil_of_length_eq_zero hn
    subst this
    refine (AnyF.slices_SortFunc_none Try.sortS none 0 _ w).mono ?_
    rintro e w' ⟨rfl, rfl⟩
    exact ⟨rfl, by simpa [inOrd] using h, grown_refl _ _⟩
  · have hcells : ∀ j, j < l.length * 2 → w.cell? ⟨g, j, none⟩ = some ((csS l)[j]!) := fun j hj => by
      have hj' : j < (csS l).length := by rw [csS_length]; exact hj
      rw [getElem!_pos _ j hj']
      have := h.2.cells (g := g) rfl j _ (List.getElem?_eq_getElem hj')
      rwa [Addr.add_lit, Nat.zero_add] at this
    have hH : HoldsK sc 2 w g 0 l.toArray := by
      intro j hj
      rw [flat_csS] at hj ⊢
      have hj' : j < l.length * 2 := by simpa [csS_length] using hj
      refine ⟨?_, ?_⟩
      · rw [Nat.zero_add, hcells j hj']
        simp [getElem!_pos, csS_length, hj']
      · rw [Nat.zero_add]
        simp [World.frozen?, hg]
    have eg : ∀ args w, (callFunc 14 args).run Try.prog w = .ok (.enter 14 args) w := enters_of Try.func14 (by kernel_rfl) rfl
    have hcmp : CmpLays Try.prog 14 #[] sc 2 cmpS g 0 l.toArray.size w := fun _ _ _ _ x y => compare_any x y _
    have hcon := AnyQ.slices_SortFunc_total Try.sortS 2 Try.isAgg23 Try.sizeOf23 sc (fun _ => rfl) (fun x v hv => by simp [sc] at hv; rcases hv with rfl | rfl <;> rfl) cmpS swo 14 #[] g 0 cap l.toArray w eg hcmp hH (Array.getElem?_eq_some_iff.1 hg).1 (by simp; omega) tot
    change Calls Try.prog 40 _ _ _ at hcon
    rw [List.size_toArray] at hcon
    refine hcon.mono ?_
    rintro e w' ⟨rfl, n, os, rfl⟩
    have e1 : flatK sc 2 (l.toArray.toList.mergeSort fun x y => !(ltOf cmpS) y x).toArray = (csS (inOrd l)).toArray := flat_csS (inOrd l)
    unfold sortWorldK putRowK
    rw [e1]
    refine ⟨rfl, ⟨fun s hs => ho s ((inOrd_mem l s).1 hs), by rw [csS_length], .inr ⟨g, cap, _, by rw [inOrd_len], hb, heap_put _ hg, by rw [inOrd_len]; exact hn, hc, by simp [putCells, hs], ?_⟩⟩, grown_put _⟩
    have := take_put cur (csS (inOrd l)) (by rw [csS_length, inOrd_len, hs]; omega)
    rwa [csS_length] at this
end Go.Proofs.Ytmifionpagpnfaa
