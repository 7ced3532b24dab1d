/-
  The program's oracle and the reference's beside each other, and blocks that a law holds besides.
-/
import Derived.Test.YteedjdflojfhmaaRefSumE
namespace Go.Proofs.Yteedjdflojfhmaa
set_option linter.unusedVariables false
set_option linter.unusedSimpArgs false
set_option synthInstance.maxSize 20000
open Go.RowKit Go.Maps

structure Two (W w : World) (b : Nat) (ft : List Nat) (r : Nat) (fr sb ax : List Nat) (S T : St) : Prop where
  a : At W w b ft S
  f : RefAt ⟨W, sb⟩ w r fr T
  dis : ∀ k ∈ ft, k ∉ fr
  out : ∀ k ∈ ft, k ∉ sb
  aux : ∀ k ∈ ax, k ∉ ft ∧ k ∉ fr ∧ k ∉ sb ∧ W.heap.size ≤ k ∧ k < w.heap.size

theorem Two.below {W w w' : World} {b : Nat} {ft : List Nat} {r : Nat} {fr sb ax : List Nat} {S T : St} (h : Two W w b ft r fr sb ax S T) (hb : Below w.heap.size w w') : Two W w' b ft r fr sb ax S T :=
  ⟨h.a.below hb, h.f.below hb, h.dis, h.out, fun k hk => ⟨(h.aux k hk).1, (h.aux k hk).2.1, (h.aux k hk).2.2.1, (h.aux k hk).2.2.2.1, Nat.lt_of_lt_of_le (h.aux k hk).2.2.2.2 hb.size⟩⟩
/-- The law writes blocks of its own. -/
theorem Two.own {W w w' : World} {b : Nat} {ft : List Nat} {r : Nat} {fr sb ax X : List Nat} {S T : St} (h : Two W w b ft r fr sb ax S T) (ht : Turn X w w') (hX : ∀ k ∈ X, k ∈ ax) : Two W w' b ft r fr sb ax S T :=
  ⟨h.a.turn ht (fun k hk e => (h.aux k (hX k e)).1 hk) (fun k hk => (h.aux k (hX k hk)).2.2.2.1), h.f.turn ht (fun k hk e => (h.aux k (hX k e)).2.1 hk) (fun k hk => ⟨(h.aux k (hX k hk)).2.2.2.1, (h.aux k (hX k hk)).2.2.1⟩), h.dis, h.out,
    fun k hk => ⟨(h.aux k hk).1, (h.aux k hk).2.1, (h.aux k hk).2.2.1, (h.aux k hk).2.2.2.1, Nat.lt_of_lt_of_le (h.aux k hk).2.2.2.2 ht.size⟩⟩
/-- More blocks of the law's own: new ones. -/
theorem Two.add {W w : World} {b : Nat} {ft : List Nat} {r : Nat} {fr sb ax : List Nat} {S T : St} (h : Two W w b ft r fr sb ax S T) (xs : List Nat) (hx : ∀ k ∈ xs, k ∉ ft ∧ k ∉ fr ∧ k ∉ sb ∧ W.heap.size ≤ k ∧ k < w.heap.size) : Two W w b ft r fr sb (xs ++ ax) S T :=
  ⟨h.a, h.f, h.dis, h.out, fun k hk => by
    rcases List.mem_append.1 hk with e | e
    · exact hx k e
    · exact h.aux k e⟩
/-- A block that was laid just now. -/
theorem Two.box {W w : World} {b : Nat} {ft : List Nat} {r : Nat} {fr sb ax : List Nat} {S T : St} (h : Two W w b ft r fr sb ax S T) (o : Obj) : Two W (w.alloc o) b ft r fr sb ([w.heap.size] ++ ax) S T := by
  refine (h.below (balloc (Below.refl _ _) o)).add [w.heap.size] (fun k hk => ?_)
  simp at hk
  subst hk
  exact ⟨fun e => Nat.lt_irrefl _ (h.a.rep.room _ e), fun e => Nat.lt_irrefl _ (h.f.room _ e), fun e => Nat.lt_irrefl _ (h.f.sbl _ e), h.a.bel.size, by simp⟩

theorem Two.left {W w w' : World} {b : Nat} {ft : List Nat} {r : Nat} {fr sb ax : List Nat} {S S' T : St} (h : Two W w b ft r fr sb ax S T) (hl : Left w b ft S' w') : ∃ ft', Two W w' b ft' r fr sb ax S' T ∧ ∀ k ∈ ax, w'.heap[k]? = w.heap[k]? := by
  obtain ⟨ft', hA, of', t⟩ := h.a.left hl
  refine ⟨ft', ⟨hA, h.f.turn t (fun k hk e => h.dis k e hk) (fun k hk => ⟨h.a.new k hk, h.out k hk⟩), fun k hk e => ?_, fun k hk e => ?_, fun k hk => ⟨fun e => ?_, (h.aux k hk).2.1, (h.aux k hk).2.2.1, (h.aux k hk).2.2.2.1, Nat.lt_of_lt_of_le (h.aux k hk).2.2.2.2 t.size⟩⟩, fun k hk => t.block k (h.aux k hk).2.2.2.2 (h.aux k hk).1⟩
  · rcases of' k hk with q | q
    · exact h.dis k q e
    · have := h.f.room k e; omega
  · rcases of' k hk with q | q
    · exact h.out k q e
    · have := h.f.sbl k e; exact absurd this (by omega)
  · rcases of' k e with q | q
    · exact (h.aux k hk).1 q
    · have := (h.aux k hk).2.2.2.2; omega
theorem Two.leftB {W w w' : World} {b : Nat} {ft : List Nat} {r : Nat} {fr sb ax : List Nat} {S S' T : St} {y : Value} {l : List Int} (h : Two W w b ft r fr sb ax S T) (hl : LeftB w b ft S' w' y l) : ∃ ft', Two W w' b ft' r fr sb (ksOf y ++ ax) S' T ∧ Rd w' y l ∧ ∀ k ∈ ax, w'.heap[k]? = w.heap[k]? := by
  obtain ⟨rd, ⟨ft', rep, of', out'⟩, t, own'⟩ := hl
  obtain ⟨ft2, h2, hk⟩ := h.left (S' := S') ⟨⟨ft', rep, of'⟩, t⟩
  have hA : At W w' b ft' S' := ⟨rep, fun k hk => by
    rcases of' k hk with q | q
    · exact h.a.new k q
    · exact Nat.le_trans h.a.bel.size q, h2.a.bel⟩
  have hT : Two W w' b ft' r fr sb ax S' T := by
    refine ⟨hA, h2.f, fun k hk e => ?_, fun k hk e => ?_, fun k hk => ⟨fun e => ?_, (h2.aux k hk).2⟩⟩
    · rcases of' k hk with q | q
      · exact h.dis k q e
      · have := h.f.room k e; omega
    · rcases of' k hk with q | q
      · exact h.out k q e
      · have := h.f.sbl k e; exact absurd this (by omega)
    · rcases of' k e with q | q
      · exact (h.aux k hk).1 q
      · have := (h.aux k hk).2.2.2.2; omega
  refine ⟨ft', hT.add (ksOf y) (fun k hk => ?_), rd, hk⟩
  have hk' : y.ownBlock = some k := by simpa [ksOf] using hk
  have ho := own' k hk'
  refine ⟨out' k hk', fun e => ?_, fun e => ?_, Nat.le_trans h.a.bel.size ho.1, ho.2⟩
  · have := h.f.room k e; omega
  · have := h.f.sbl k e; exact absurd this (by omega)
theorem Two.rleft {W w w' : World} {b : Nat} {ft : List Nat} {r : Nat} {fr sb ax ks : List Nat} {S T T' : St} (h : Two W w b ft r fr sb ax S T) (hks : ∀ k ∈ ks, w.heap.size ≤ k) (hl : RLeft ⟨W, ks ++ sb⟩ w r fr T' w') : ∃ fr', Two W w' b ft r fr' (ks ++ sb) ax S T' ∧ ∀ k ∈ ax, w'.heap[k]? = w.heap[k]? := by
  obtain ⟨⟨fr', ra, of'⟩, t⟩ := hl
  refine ⟨fr', ⟨h.a.turn t (fun k hk e => h.dis k hk e) (fun k hk => h.f.new k hk), ra, fun k hk e => ?_, fun k hk e => ?_, fun k hk => ⟨(h.aux k hk).1, fun e => ?_, fun e => ?_, (h.aux k hk).2.2.2.1, Nat.lt_of_lt_of_le (h.aux k hk).2.2.2.2 t.size⟩⟩, fun k hk => t.block k (h.aux k hk).2.2.2.2 (h.aux k hk).2.1⟩
  · rcases of' k e with q | q
    · exact h.dis k hk q
    · have := h.a.rep.room k hk; omega
  · rcases List.mem_append.1 e with q | q
    · have := hks k q
      have := h.a.rep.room k hk
      omega
    · exact h.out k hk q
  · rcases of' k e with q | q
    · exact (h.aux k hk).2.1 q
    · have := (h.aux k hk).2.2.2.2; omega
  · rcases List.mem_append.1 e with q | q
    · have := hks k q
      have := (h.aux k hk).2.2.2.2
      omega
    · exact (h.aux k hk).2.2.1 q

theorem Rd.keep {w w' : World} {v : Value} {l : List Int} (h : Rd w v l) (hk : ∀ k ∈ ksOf v, w'.heap[k]? = w.heap[k]?) : Rd w' v l := by
  obtain ⟨ho', a, cap, rfl, h1, h2, h3, h4⟩ := h
  refine ⟨ho', a, cap, rfl, h1, h2, h3, fun hp => ?_⟩
  obtain ⟨b, off, rfl, hc⟩ := h4 hp
  refine ⟨b, off, rfl, fun j hj => ?_⟩
  rw [World.cell?_of_block (hk b (by simp [ksOf, Value.ownBlock]))]
  exact hc j hj

/-- The reference's oracle at its beginning. -/
theorem ref0 (W w : World) (hb : Below W.heap.size W w) (dv : Value) (ds : List Int) (hd : RdU W dv ds) : RefAt ⟨W, []⟩ (w.alloc (.cells #[dv, .slice none 0 0] 31)) w.heap.size [w.heap.size] ⟨ds, []⟩ :=
  ⟨[], dv, .slice none 0 0, rfl, blk_new w [dv, .slice none 0 0] 31, by simp, fun k hk => by simp at hk; subst hk; exact hb.size, fun k hk => by simp at hk; subst hk; simp, balloc hb _, hd, World.ownsRow_nil _ _ _ _, (fun k hk => by cases hk), (fun q hq => by cases hq), (fun k hk => by cases hk), good0 hd.1, by simp⟩
end Go.Proofs.Yteedjdflojfhmaa
