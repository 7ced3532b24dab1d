/-
  A new oracle.
-/
import Derived.Test.YtiebbglknmcnpaaRep
namespace Go.Proofs.Ytiebbglknmcnpaa
set_option linter.unusedVariables false
set_option synthInstance.maxSize 20000
open Classical
open Go.RowKit Go.Maps

theorem info37 : (Try.prog.info? 23).map (fun i => (i.zero, i.size, i.bytes)) = some (some (.int .u64 0), 1, 8) := by kernel_rfl
def csU (l : List Int) : List Value := l.map (Value.int .u64)

theorem csU_at (l : List Int) (j : Nat) (h : j < l.length) : (csU l)[j]? = some (.int .u64 (l.getD j 0)) := by simp [csU, h]
theorem csU_some {l : List Int} {j : Nat} {u : Value} (h : (csU l)[j]? = some u) : j < l.length ∧ u = .int .u64 (l.getD j 0) := by
  have hj : j < l.length := by have := (List.getElem?_eq_some_iff.1 h).1; simpa [csU] using this
  rw [csU_at l j hj] at h
  exact ⟨hj, (Option.some.inj h).symm⟩
theorem ownU_rd {B : Nat} {e : TypeId} {w : World} {v : Value} {l : List Int} (h : w.ownsRow B e 1 v l.length (csU l)) (hU : ∀ x ∈ l, U64 x) : RdU w v l ∧ ∀ k, v.ownBlock = some k → B ≤ k ∧ k < w.heap.size := by
  refine ⟨⟨hU, ?_⟩, fun k hk => h.lt k hk⟩
  obtain ⟨h1, h2⟩ := h
  rcases h2 with ⟨rfl, hn⟩ | ⟨g, cap, cur, rfl, hb, hg, hn, hc, hs, ht⟩
  · have : l = [] := List.eq_nil_of_length_eq_zero hn
    subst this
    exact ⟨none, 0, rfl, Nat.le_refl _, Nat.zero_le _, fun _ => rfl, fun h => by simp at h⟩
  · refine ⟨some ⟨g, 0, none⟩, cap, rfl, hn, hc, (fun h => by cases h), fun _ => ⟨g, 0, rfl, fun j hj => ?_⟩⟩
    have := World.ownsRow.cells (w := w) (base := B) (e := e) (size := 1) (v := .slice (some ⟨g, 0, none⟩) l.length cap) (n := l.length) (xs := csU l) ⟨h1, .inr ⟨g, cap, cur, rfl, hb, hg, hn, hc, hs, ht⟩⟩ (g := g) rfl j _ (csU_at l j hj)
    rw [Addr.add_lit] at this
    exact this

theorem eql_slice (t e : TypeId) (hu : Try.prog.underlying t = some (.slice e)) (w : World) (a : Option Addr) (n c : Nat) : (binOp .eql t (.slice a n c) (.slice none 0 0)).run Try.prog w = .ok (.bool a.isNone) w := by
  have key : ∀ d, (Op.equalIn (d + 1) t (.slice a n c) (.slice none 0 0)).run Try.prog w = .ok a.isNone w := fun d => by
    cases a <;> simp [Op.equalIn, run_underlying hu, Result.andThen]
  have e1 : (binOp .eql t (.slice a n c) (.slice none 0 0)).run Try.prog w = ((Op.equalIn (9999 + 1) t (.slice a n c) (.slice none 0 0)).run Try.prog w).andThen fun b w' => .ok (.bool b) w' := by
    simp only [binOp]
    simp [Op.equal, Op.maxDepth]
  rw [e1, key]
  rfl

set_option maxRecDepth 20000 in
theorem clone_any (v : Value) (l : List Int) (w : World) (hv : RdU w v l) (hl : l.length ≤ 1000000) :
    Calls Try.prog 25 #[v] w fun e w' => ∃ v', e = .returned v' ∧ RdU w' v' l ∧ Below w.heap.size w w' ∧ ∀ k, v'.ownBlock = some k → w.heap.size ≤ k ∧ k < w'.heap.size := by
  have HV : Hid (RdU w v l) := hv
  obtain ⟨hU, a, cap, rfl, h1, h2, h3, h4⟩ := hv
  obtain ⟨i0, hi, hz0, hz1, hz2⟩ := info_parts info37
  cases a with
  | none =>
    have hc := h3 rfl
    subst hc
    have hl0 : l = [] := List.eq_nil_of_length_eq_zero (by omega)
    subst hl0
    have hq := eql_slice 22 23 (by kernel_rfl) w none 0 0
    go_enter Try.func25, Try.ntmps25
    go_wp2
    go_ret
    exact ⟨_, rfl, rdU_nil w, Below.refl _ _, fun k hk => by cases hk⟩
  | some ad =>
    have hq := eql_slice 22 23 (by kernel_rfl) w (some ad) l.length cap
    have HO : Hid ((w.alloc (.cells #[] 23)).ownsRow w.heap.size 23 1 (.slice (some ⟨w.heap.size, 0, none⟩) 0 0) 0 []) :=
      ⟨rfl, .inr ⟨w.heap.size, 0, #[], rfl, Nat.le_refl _, heap_alloc_new w _, Nat.le_refl _, Nat.zero_le _, rfl, rfl⟩⟩
    have HC : Hid (∀ j u, (csU l)[j]? = some u → (w.alloc (.cells #[] 23)).cell? (ad.add j) = some u) := fun j u hu => by
      obtain ⟨hj, rfl⟩ := csU_some hu
      obtain ⟨bb, off, e, hc⟩ := h4 (by omega)
      cases e
      rw [Addr.add_lit]
      exact (World.grownBy_alloc w (.cells #[] 23) none).cell (hc j hj) (by simp)
    have HU : Hid (∀ x ∈ l, U64 x) := hU
    clear h3 h4 hU
    go_enter Try.func25, Try.ntmps25
    go_wp2_with (at_builtin; refine wpList_append_own _ rfl _ _ 22 rfl w.heap.size 23 i0 (.int .u64 0) 1 8 (by kernel_rfl) hi hz0 hz1 hz2 rfl (by decide) _ 0 [] rfl HO.out ad l.length cap (csU l) rfl (by simp [csU]) HC.out (ints_oneCell .u64 l) (by unfold maxLen; omega) (by omega) (by simp) ?_; intro v' w1 ho1 hg1 hnil1)
    go_ret
    have ho2 : w1.ownsRow w.heap.size 23 1 v' l.length (csU l) := by simpa using ho1
    obtain ⟨r1, r2⟩ := ownU_rd ho2 HU.out
    exact ⟨_, rfl, r1, bgrown (balloc (Below.refl _ w) _) (Nat.le_refl _) hg1, r2⟩

set_option maxRecDepth 20000 in
theorem new_any (v : Value) (l : List Int) (w : World) (hv : RdU w v l) (hl : l.length ≤ 1000000) :
    Calls Try.prog 9 #[v] w fun e w' => ∃ b, e = .returned (ptr b) ∧ (∃ ft, Rep w' b ft ⟨l, []⟩ ∧ ∀ k ∈ ft, w.heap.size ≤ k) ∧ Below w.heap.size w w' := by
  have hU := hv.1
  go_enter Try.func9, Try.ntmps9
  go_wp2_with (go_at_call 25; go_must (refine (clone_any v l w hv hl).mono ?_; rintro e w1 ⟨v1, rfl, hr1, hb1, ho1⟩; have HR : Hid (RdU w1 v1 l) := hr1; obtain ⟨_, a1, c1, rfl, _⟩ := hr1))
  go_ret
  have hro : ∀ k, (a1.map Addr.block) = some k ↔ (Value.slice a1 l.length c1).ownBlock = some k := fun k => by cases a1 <;> simp [Value.ownBlock]
  refine ⟨w1.heap.size, rfl, ⟨w1.heap.size :: (a1.map Addr.block).toList, ⟨⟨l, 0, [], fun _ => none, fun _ => none, fun _ => none⟩, .slice a1 l.length c1, .map none, .map none, .map none, ⟨heap_alloc_new w1 _, by simp, ?_, fun k hk => ?_, by simp, by simp, by simp, ?_, fun k hk => ?_⟩, ?_⟩, fun k hk => ?_⟩, balloc hb1 _⟩
  · exact HR.out.turn (ft := []) (Turn.of_below ((Below.refl _ _).alloc (Nat.le_refl _) _)) (fun k _ h => by cases h)
  · have := ho1 k hk
    refine ⟨by simp [(hro k).2 hk], by omega, by simp, by simp, by simp⟩
  · exact .inl ⟨rfl, rfl, rfl, rfl, fun _ => rfl, fun _ => rfl⟩
  · simp only [List.mem_cons, Option.mem_toList] at hk
    rcases hk with rfl | hk
    · simp
    · have := ho1 k ((hro k).1 hk)
      simp
      omega
  · refine ⟨fun i h1 h2 => ?_, ⟨hU, by simp, by simp [St.us]⟩, rfl, rfl, fun _ => rfl, fun _ _ => rfl, fun _ _ _ _ => rfl⟩
    simp at h2
    omega
  · simp only [List.mem_cons, Option.mem_toList] at hk
    rcases hk with rfl | hk
    · exact hb1.size
    · exact (ho1 k ((hro k).1 hk)).1
end Go.Proofs.Ytiebbglknmcnpaa
