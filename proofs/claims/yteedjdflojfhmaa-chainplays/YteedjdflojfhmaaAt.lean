/-
  An oracle that a law has made (At): all its blocks are new, what came in is read as ever; the methods over it.
-/
import Derived.Test.YteedjdflojfhmaaBox
import Derived.Test.YteedjdflojfhmaaVerify
import Derived.Test.YteedjdflojfhmaaPut
import Derived.Test.YteedjdflojfhmaaRef
import Derived.Lib.SlBytesConst
namespace Go.Proofs.Yteedjdflojfhmaa
set_option linter.unusedVariables false
set_option synthInstance.maxSize 20000
open Classical
open Go.RowKit Go.Maps

set_option maxHeartbeats 1000000 in
set_option maxRecDepth 20000 in
theorem hash_all (w : World) (b : Nat) (ft : List Nat) (S : St) (h : Rep w b ft S) (hN : S.rows.length + 1 < 1000000000) (v : Value) (l : List Int) (hv : ∀ w', Turn ft w w' → Rd w' v l) (hl : l.length ≤ 1000000) :
    Calls Try.prog 87 #[ptr b, v] w fun e w' => e = .returned (.int .u64 (S.get (.hash l)).1) ∧ Left w b ft (S.get (.hash l)).2 w' := by
  obtain ⟨T, dv, m1, m2, m3, hi, st⟩ := h
  have ho := (hv w (Turn.refl _ _)).oct
  have HS : Hid (Stand T S) := st
  have HV : Hid (∀ w', Turn ft w w' → Rd w' v l) := hv
  have HI : Hid (IsO w b ft T dv m1 m2 m3) := hi
  have hmf : ∀ (fn : Fn) (first cap : Array Value) (w : World), (Instr.makeFunc fn first cap).run Try.prog w = .ok (.func fn first cap) w := fun _ _ _ _ => rfl
  clear hi st hv
  go_enter Try.func87, Try.ntmps87
  go_wp2_with (go_at_call 57; go_must (refine (ready_any _ b ft T dv m1 m2 m3 HI.out).mono ?_; rintro e w1 ⟨rfl, ⟨ft1, b1, b2, b3, h1, hof1, hsub1⟩, ht1⟩))
  have c3 := h1.blk.cell 3 _ rfl
  have ht1' : Turn ft w w1 := ht1.widen (ft' := ft) (fun k hk => by simp at hk; rw [hk]; exact HI.out.foot)
  have hv1 : Rd w1 v l := HV.out w1 ht1'
  have q1 := toStr w1.drew v l hv1.drew
  have q2 := toStr w1.drew.drew v l hv1.drew.drew
  have HI1 : Hid (IsO w1 b ft1 T dv (.map (some b1)) (.map (some b2)) (.map (some b3))) := h1
  clear h1 ht1
  go_region_with (go_at_call 84; go_must (refine (handle_hash _ b ft1 S T dv b1 b2 b3 HI1.out.drew HS.out hN l ho hl).mono ?_; rintro e w2 ⟨rfl, hl2⟩))
  all_goals go_wp2
  all_goals go_ret
  all_goals exact ⟨rfl, Left.trans (S1 := S) hof1 ht1' (by first | exact hl2.undrew | exact hl2.undrew.drew)⟩

/-- The oracle of block b, made since W, stands for S. -/
structure At (W w : World) (b : Nat) (ft : List Nat) (S : St) : Prop where
  rep : Rep w b ft S
  new : ∀ k ∈ ft, W.heap.size ≤ k
  bel : Below W.heap.size W w

theorem At.below {W w w' : World} {b : Nat} {ft : List Nat} {S : St} (h : At W w b ft S) (hb : Below w.heap.size w w') : At W w' b ft S := ⟨h.rep.below hb, h.new, bnext h.bel hb⟩
theorem At.turn {W w w' : World} {b : Nat} {ft X : List Nat} {S : St} (h : At W w b ft S) (ht : Turn X w w') (hX : ∀ k ∈ ft, k ∉ X) (hn : ∀ k ∈ X, W.heap.size ≤ k) : At W w' b ft S := ⟨h.rep.turn ht hX, h.new, h.bel.trans (ht.below h.bel.size hn)⟩
theorem At.left {W w w' : World} {b : Nat} {ft : List Nat} {S S' : St} (h : At W w b ft S) (hl : Left w b ft S' w') : ∃ ft', At W w' b ft' S' ∧ Of ft w ft' ∧ Turn ft w w' := by
  obtain ⟨⟨ft', r, o⟩, t⟩ := hl
  exact ⟨ft', ⟨r, fun k hk => by
    rcases o k hk with e | e
    · exact h.new k e
    · exact Nat.le_trans h.bel.size e, h.bel.trans (t.below h.bel.size h.new)⟩, o, t⟩
theorem At.leftB {W w w' : World} {b : Nat} {ft : List Nat} {S S' : St} {v : Value} {l : List Int} (h : At W w b ft S) (hl : LeftB w b ft S' w' v l) : ∃ ft', At W w' b ft' S' ∧ Rd w' v l ∧ Out ft' v ∧ Of ft w ft' ∧ Turn ft w w' ∧ ∀ k, v.ownBlock = some k → w.heap.size ≤ k ∧ k < w'.heap.size := by
  obtain ⟨rd, ⟨ft', r, o, q⟩, t, n⟩ := hl
  exact ⟨ft', ⟨r, fun k hk => by
    rcases o k hk with e | e
    · exact h.new k e
    · exact Nat.le_trans h.bel.size e, h.bel.trans (t.below h.bel.size h.new)⟩, rd, q, o, t, n⟩
theorem At.rd {W w : World} {b : Nat} {ft : List Nat} {S : St} (h : At W w b ft S) {v : Value} {l : List Int} (hv : Rd W v l) : Rd w v l := hv.below h.bel
theorem At.rds {W w : World} {b : Nat} {ft : List Nat} {S : St} (h : At W w b ft S) {v : Value} {l : List Int} (hv : Rd W v l) : ∀ w', Turn ft w w' → Rd w' v l := fun w' ht => hv.below (h.bel.trans (ht.below h.bel.size h.new))

theorem new_at (W w : World) (hb : Below W.heap.size W w) (v : Value) (l : List Int) (hv : RdU w v l) (hl : l.length ≤ 1000000) : Calls Try.prog 11 #[v] w fun e w' => ∃ b, e = .returned (ptr b) ∧ ∃ ft, At W w' b ft ⟨l, []⟩ ∧ ∀ k ∈ ft, w.heap.size ≤ k := by
  refine (new_any v l w hv hl).mono ?_
  rintro e w' ⟨b, rfl, ⟨ft, hr, hn⟩, hbb⟩
  exact ⟨b, rfl, ft, ⟨hr, fun k hk => Nat.le_trans hb.size (hn k hk), bnext hb hbb⟩, hn⟩

theorem U64.of_fresh {S : St} (hg : Good S) (hN : S.rows.length < 1000000000) : U64 S.fresh := (fresh_ok hg hN).2.2.1

theorem rdU_row (w : World) (l : List Int) (e : TypeId) (m : Nat × Nat) (hU : ∀ x ∈ l, U64 x) (hl : l.length ≤ maxLen) : RdU (w.alloc (.cells (csU l).toArray e m)) (.slice (some ⟨w.heap.size, 0, none⟩) l.length l.length) l := by
  refine ⟨hU, some ⟨w.heap.size, 0, none⟩, l.length, rfl, Nat.le_refl _, hl, (fun h => by cases h), fun _ => ⟨w.heap.size, 0, rfl, fun j hj => ?_⟩⟩
  have hh : (w.alloc (.cells (csU l).toArray e m)).heap[w.heap.size]? = some (.cells (csU l).toArray e m) := by
    show (w.heap.push _)[w.heap.size]? = _
    simp
  unfold World.cell?
  simp only [hh, Nat.zero_add]
  simpa using csU_at l j hj
theorem rd_rowM (w : World) (l : List Int) (e : TypeId) (m : Nat × Nat) (ho : Oct l) (hl : l.length ≤ maxLen) : Rd (w.alloc (.cells (cs8 l).toArray e m)) (.slice (some ⟨w.heap.size, 0, none⟩) l.length l.length) l := by
  refine ⟨ho, some ⟨w.heap.size, 0, none⟩, l.length, rfl, Nat.le_refl _, hl, (fun h => by cases h), fun _ => ⟨w.heap.size, 0, rfl, fun j hj => ?_⟩⟩
  have hh : (w.alloc (.cells (cs8 l).toArray e m)).heap[w.heap.size]? = some (.cells (cs8 l).toArray e m) := by
    show (w.heap.push _)[w.heap.size]? = _
    simp
  unfold World.cell?
  simp only [hh, Nat.zero_add]
  simpa using cs8_at l j hj

/-- A new slice of bytes is read whatever the oracle does. -/
theorem At.fresh_rd {W w : World} {b : Nat} {ft : List Nat} {S : St} (h : At W w b ft S) {l : List Int} (ho : Oct l) (hl : l.length ≤ maxLen) (e : TypeId) (m : Nat × Nat) :
    ∀ w', Turn ft (w.alloc (.cells (cs8 l).toArray e m)) w' → Rd w' (.slice (some ⟨w.heap.size, 0, none⟩) l.length l.length) l := fun w' ht =>
  (rd_rowM w l e m ho hl).turn ht (fun k hk e => by
    simp only [Value.ownBlock, Option.some.injEq] at hk
    have := h.rep.room k e
    omega)

end Go.Proofs.Yteedjdflojfhmaa
