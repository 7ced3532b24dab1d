/-
  The player of the scripts in memory: both oracles, what was told, and slices that are held; what a call of one leaves of the others.
-/
import Derived.Test.YtcacioogklgahaaRefUnw
import Derived.Test.YtcacioogklgahaaSeal
import Derived.Test.YtcacioogklgahaaAlive3
namespace Go.Proofs.Ytcacioogklgahaa
set_option linter.unusedVariables false
set_option synthInstance.maxSize 20000
open Classical
open Go.RowKit Go.Maps

structure Pl (W w : World) (pb b r : Nat) (fp fx : List Nat) (hs : List Int) (ts xs : List (Value × List Int)) (bs : List (Nat × List Value)) (hv tv : Value) : Prop where
  blk : Blk w pb 35 [ptr b, ptr r, hv, tv]
  foot : pb ∈ fp
  new : ∀ k ∈ fp ++ fx, W.heap.size ≤ k
  room : ∀ k ∈ fp ++ fx, k < w.heap.size
  hown : w.ownsRow W.heap.size 37 1 hv hs.length (csU hs)
  hU : ∀ h ∈ hs, U64 h
  town : w.ownsRow W.heap.size 38 1 tv ts.length (ts.map (·.1))
  hap : ∀ k, hv.ownBlock = some k → k ∈ fp ∧ k ≠ pb
  tap : ∀ k, tv.ownBlock = some k → k ∈ fp ∧ k ≠ pb ∧ hv.ownBlock ≠ some k
  held : ∀ q ∈ xs ++ ts, Rd w q.1 q.2 ∧ ∀ k, q.1.ownBlock = some k → k ∈ fx
  box : ∀ q ∈ bs, Blk w q.1 40 q.2 ∧ q.1 ∈ fx
  apart : ∀ k ∈ fp, k ∉ fx

theorem rd_block {w w' : World} {v : Value} {l : List Int} (h : Rd w v l) (hb : ∀ k, v.ownBlock = some k → k < w.heap.size → w'.heap[k]? = w.heap[k]?) : Rd w' v l := by
  obtain ⟨ho, a, cap, rfl, h1, h2, h3, h4⟩ := h
  refine ⟨ho, a, cap, rfl, h1, h2, h3, fun hp => ?_⟩
  obtain ⟨b, off, rfl, hc⟩ := h4 hp
  refine ⟨b, off, rfl, fun j hj => ?_⟩
  have c := hc j hj
  have hlt : b < w.heap.size := by
    unfold World.cell? at c
    cases hh : w.heap[b]? with
    | none => simp [hh] at c
    | some o => exact (Array.getElem?_eq_some_iff.1 hh).1
  rw [World.cell?_of_block (w := w) (hb b rfl hlt)]
  exact c

theorem Pl.turn {W w w' : World} {pb b r : Nat} {fp fx X : List Nat} {hs : List Int} {ts xs : List (Value × List Int)} {bs : List (Nat × List Value)} {hv tv : Value} (h : Pl W w pb b r fp fx hs ts xs bs hv tv) (ht : Turn X w w') (hX : ∀ k ∈ fp ++ fx, k ∉ X) : Pl W w' pb b r fp fx hs ts xs bs hv tv := by
  have hb : ∀ k ∈ fp ++ fx, w'.heap[k]? = w.heap[k]? := fun k hk => ht.block k (h.room k hk) (hX k hk)
  have hp : ∀ k ∈ fp, w'.heap[k]? = w.heap[k]? := fun k hk => hb k (List.mem_append.2 (.inl hk))
  have hx : ∀ k ∈ fx, w'.heap[k]? = w.heap[k]? := fun k hk => hb k (List.mem_append.2 (.inr hk))
  exact ⟨h.blk.block (hp pb h.foot), h.foot, h.new, fun k hk => Nat.lt_of_lt_of_le (h.room k hk) ht.size, ownsRow_block h.hown (fun k hk => hp k (h.hap k hk).1), h.hU, ownsRow_block h.town (fun k hk => hp k (h.tap k hk).1), h.hap, h.tap,
    fun q hq => ⟨rd_block (h.held q hq).1 (fun k hk _ => hx k ((h.held q hq).2 k hk)), (h.held q hq).2⟩, fun q hq => ⟨(h.box q hq).1.block (hx _ (h.box q hq).2), (h.box q hq).2⟩, h.apart⟩

structure G0 (W w : World) (pb b r : Nat) (ft fr fp fx : List Nat) (S T : St) (hs : List Int) (ts xs : List (Value × List Int)) (bs : List (Nat × List Value)) (hv tv : Value) : Prop where
  o : At W w b ft S
  m : RefAt W w r fr T
  p : Pl W w pb b r fp fx hs ts xs bs hv tv
  d1 : ∀ k ∈ ft, k ∉ fr
  d2 : ∀ k ∈ ft, k ∉ fp ++ fx
  d3 : ∀ k ∈ fr, k ∉ fp ++ fx
/-- The whole game: the program's oracle stands for S, the reference's for T, the player has told hs and ts and holds xs. -/
def Game (W w : World) (pb b r : Nat) (S T : St) (hs : List Int) (ts xs : List (Value × List Int)) (bs : List (Nat × List Value)) : Prop := ∃ ft fr fp fx hv tv, G0 W w pb b r ft fr fp fx S T hs ts xs bs hv tv

theorem Game.bel {W w : World} {pb b r : Nat} {S T : St} {hs : List Int} {ts xs : List (Value × List Int)} {bs : List (Nat × List Value)} (h : Game W w pb b r S T hs ts xs bs) : Below W.heap.size W w := by
  obtain ⟨ft, fr, fp, fx, hv, tv, g⟩ := h
  exact g.o.bel
theorem Game.below {W w w' : World} {pb b r : Nat} {S T : St} {hs : List Int} {ts xs : List (Value × List Int)} {bs : List (Nat × List Value)} (h : Game W w pb b r S T hs ts xs bs) (hb : Below w.heap.size w w') : Game W w' pb b r S T hs ts xs bs := by
  obtain ⟨ft, fr, fp, fx, hv, tv, g⟩ := h
  exact ⟨ft, fr, fp, fx, hv, tv, g.o.below hb, g.m.below hb, g.p.turn (X := []) (Turn.of_below hb) (fun _ _ h => by cases h), g.d1, g.d2, g.d3⟩
theorem Game.drop {W w : World} {pb b r : Nat} {S T : St} {hs : List Int} {ts xs : List (Value × List Int)} {bs : List (Nat × List Value)} (h : Game W w pb b r S T hs ts xs bs) : Game W w pb b r S T hs ts [] bs := by
  obtain ⟨ft, fr, fp, fx, hv, tv, g⟩ := h
  exact ⟨ft, fr, fp, fx, hv, tv, g.o, g.m, ⟨g.p.blk, g.p.foot, g.p.new, g.p.room, g.p.hown, g.p.hU, g.p.town, g.p.hap, g.p.tap, fun q hq => g.p.held q (by simp at hq; simp [hq]), g.p.box, g.p.apart⟩, g.d1, g.d2, g.d3⟩
theorem Game.unbox {W w : World} {pb b r : Nat} {S T : St} {hs : List Int} {ts xs : List (Value × List Int)} {bs : List (Nat × List Value)} (h : Game W w pb b r S T hs ts xs bs) : Game W w pb b r S T hs ts xs [] := by
  obtain ⟨ft, fr, fp, fx, hv, tv, g⟩ := h
  exact ⟨ft, fr, fp, fx, hv, tv, g.o, g.m, ⟨g.p.blk, g.p.foot, g.p.new, g.p.room, g.p.hown, g.p.hU, g.p.town, g.p.hap, g.p.tap, g.p.held, (fun q hq => by cases hq), g.p.apart⟩, g.d1, g.d2, g.d3⟩
theorem Game.held {W w : World} {pb b r : Nat} {S T : St} {hs : List Int} {ts xs : List (Value × List Int)} {bs : List (Nat × List Value)} (h : Game W w pb b r S T hs ts xs bs) {q : Value × List Int} (hq : q ∈ xs ++ ts) : Rd w q.1 q.2 := by
  obtain ⟨ft, fr, fp, fx, hv, tv, g⟩ := h
  exact (g.p.held q hq).1
theorem Game.box {W w : World} {pb b r : Nat} {S T : St} {hs : List Int} {ts xs : List (Value × List Int)} {bs : List (Nat × List Value)} (h : Game W w pb b r S T hs ts xs bs) {q : Nat × List Value} (hq : q ∈ bs) : Blk w q.1 40 q.2 := by
  obtain ⟨ft, fr, fp, fx, hv, tv, g⟩ := h
  exact (g.p.box q hq).1
theorem Game.cells {W w : World} {pb b r : Nat} {S T : St} {hs : List Int} {ts xs : List (Value × List Int)} {bs : List (Nat × List Value)} (h : Game W w pb b r S T hs ts xs bs) : w.cell? ⟨pb, 0, none⟩ = some (ptr b) ∧ w.cell? ⟨pb, 1, none⟩ = some (ptr r) := by
  obtain ⟨ft, fr, fp, fx, hv, tv, g⟩ := h
  exact ⟨g.p.blk.cell 0 _ rfl, g.p.blk.cell 1 _ rfl⟩

theorem G0.oStep {W w w' : World} {pb b r : Nat} {ft fr fp fx ft' : List Nat} {S S' T : St} {hs : List Int} {ts xs : List (Value × List Int)} {bs : List (Nat × List Value)} {hv tv : Value} (g : G0 W w pb b r ft fr fp fx S T hs ts xs bs hv tv) (a : At W w' b ft' S') (o : Of ft w ft') (t : Turn ft w w') : G0 W w' pb b r ft' fr fp fx S' T hs ts xs bs hv tv := by
  refine ⟨a, g.m.turn t (fun k hk e => g.d1 k e hk) g.o.new, g.p.turn t (fun k hk e => g.d2 k e hk), fun k hk e => ?_, fun k hk e => ?_, g.d3⟩
  · rcases o k hk with q | q
    · exact g.d1 k q e
    · have := g.m.room k e; omega
  · rcases o k hk with q | q
    · exact g.d2 k q e
    · have := g.p.room k e; omega
theorem G0.mStep {W w w' : World} {pb b r : Nat} {ft fr fp fx fr' : List Nat} {S T T' : St} {hs : List Int} {ts xs : List (Value × List Int)} {bs : List (Nat × List Value)} {hv tv : Value} (g : G0 W w pb b r ft fr fp fx S T hs ts xs bs hv tv) (a : RefAt W w' r fr' T') (o : Of fr w fr') (t : Turn fr w w') : G0 W w' pb b r ft fr' fp fx S T' hs ts xs bs hv tv := by
  refine ⟨g.o.turn t (fun k hk e => g.d1 k hk e) g.m.new, a, g.p.turn t (fun k hk e => g.d3 k e hk), fun k hk e => ?_, g.d2, fun k hk e => ?_⟩
  · rcases o k e with q | q
    · exact g.d1 k hk q
    · have := g.o.rep.room k hk; omega
  · rcases o k hk with q | q
    · exact g.d3 k q e
    · have := g.p.room k e; omega
/-- A slice more is held. -/
theorem G0.hold {W w : World} {pb b r : Nat} {ft fr fp fx : List Nat} {S T : St} {hs : List Int} {ts xs : List (Value × List Int)} {bs : List (Nat × List Value)} {hv tv : Value} (g : G0 W w pb b r ft fr fp fx S T hs ts xs bs hv tv) {v : Value} {l : List Int} (hr : Rd w v l) (hn : ∀ k, v.ownBlock = some k → W.heap.size ≤ k ∧ k < w.heap.size ∧ k ∉ ft ∧ k ∉ fr ∧ k ∉ fp) : Game W w pb b r S T hs ts ((v, l) :: xs) bs := by
  refine ⟨ft, fr, fp, v.ownBlock.toList ++ fx, hv, tv, g.o, g.m, ⟨g.p.blk, g.p.foot, fun k hk => ?_, fun k hk => ?_, g.p.hown, g.p.hU, g.p.town, g.p.hap, g.p.tap, fun q hq => ?_, fun q hq => ⟨(g.p.box q hq).1, by simp [(g.p.box q hq).2]⟩, fun k hk e => ?_⟩, g.d1, fun k hk e => ?_, fun k hk e => ?_⟩
  · simp only [List.mem_append] at hk
    rcases hk with e | e | e
    · exact g.p.new k (by simp [e])
    · exact (hn k (by simpa using e)).1
    · exact g.p.new k (by simp [e])
  · simp only [List.mem_append] at hk
    rcases hk with e | e | e
    · exact g.p.room k (by simp [e])
    · exact (hn k (by simpa using e)).2.1
    · exact g.p.room k (by simp [e])
  · simp only [List.cons_append, List.mem_cons] at hq
    rcases hq with rfl | e
    · exact ⟨hr, fun k hk => by simp [hk]⟩
    · exact ⟨(g.p.held q e).1, fun k hk => by simp [(g.p.held q e).2 k hk]⟩
  · simp only [List.mem_append] at e
    rcases e with e | e
    · exact (hn k (by simpa using e)).2.2.2.2 hk
    · exact g.p.apart k hk e
  · simp only [List.mem_append] at e
    rcases e with e | e | e
    · exact g.d2 k hk (by simp [e])
    · exact (hn k (by simpa using e)).2.2.1 hk
    · exact g.d2 k hk (by simp [e])
  · simp only [List.mem_append] at e
    rcases e with e | e | e
    · exact g.d3 k hk (by simp [e])
    · exact (hn k (by simpa using e)).2.2.2.1 hk
    · exact g.d3 k hk (by simp [e])
/-- A box more. -/
theorem Game.boxed {W w : World} {pb b r : Nat} {S T : St} {hs : List Int} {ts xs : List (Value × List Int)} {bs : List (Nat × List Value)} (h : Game W w pb b r S T hs ts xs bs) (vs : List Value) : Game W (w.alloc (.cells vs.toArray 40)) pb b r S T hs ts xs ((w.heap.size, vs) :: bs) := by
  have hb : Below w.heap.size w (w.alloc (.cells vs.toArray 40)) := balloc (Below.refl _ _) _
  have hsz : (w.alloc (.cells vs.toArray 40)).heap.size = w.heap.size + 1 := by simp
  have hW := h.bel.size
  obtain ⟨ft, fr, fp, fx, hv, tv, g⟩ := h
  have hft := g.o.rep.room
  have hfr := g.m.room
  have hpr := g.p.room
  have g2 : G0 W (w.alloc (.cells vs.toArray 40)) pb b r ft fr fp fx S T hs ts xs bs hv tv := ⟨g.o.below hb, g.m.below hb, g.p.turn (X := []) (Turn.of_below hb) (fun _ _ h => by cases h), g.d1, g.d2, g.d3⟩
  refine ⟨ft, fr, fp, w.heap.size :: fx, hv, tv, g2.o, g2.m, ⟨g2.p.blk, g2.p.foot, fun k hk => ?_, fun k hk => ?_, g2.p.hown, g2.p.hU, g2.p.town, g2.p.hap, g2.p.tap, fun q hq => ⟨(g2.p.held q hq).1, fun k hk => List.mem_cons_of_mem _ ((g2.p.held q hq).2 k hk)⟩, fun q hq => ?_, fun k hk e => ?_⟩, g.d1, fun k hk e => ?_, fun k hk e => ?_⟩
  · simp only [List.mem_append, List.mem_cons] at hk
    rcases hk with e | rfl | e
    · exact g2.p.new k (by simp [e])
    · exact hW
    · exact g2.p.new k (by simp [e])
  · simp only [List.mem_append, List.mem_cons] at hk
    rcases hk with e | rfl | e
    · exact g2.p.room k (by simp [e])
    · omega
    · exact g2.p.room k (by simp [e])
  · simp only [List.mem_cons] at hq
    rcases hq with rfl | e
    · exact ⟨heap_alloc_new w _, by simp⟩
    · exact ⟨(g2.p.box q e).1, by simp [(g2.p.box q e).2]⟩
  · simp only [List.mem_cons] at e
    rcases e with rfl | e
    · have := hpr w.heap.size (by simp [hk]); omega
    · exact g.p.apart k hk e
  · simp only [List.mem_append, List.mem_cons] at e
    rcases e with e | rfl | e
    · exact g.d2 k hk (by simp [e])
    · have := hft w.heap.size hk; omega
    · exact g.d2 k hk (by simp [e])
  · simp only [List.mem_append, List.mem_cons] at e
    rcases e with e | rfl | e
    · exact g.d3 k hk (by simp [e])
    · have := hfr w.heap.size hk; omega
    · exact g.d3 k hk (by simp [e])
end Go.Proofs.Ytcacioogklgahaa
