/-
  The game of BufferPlays: steps as they came in, both buffers beside each other.
-/
import Derived.Test.YtigfklcclfpcjaaRBuf4
import Derived.Test.YtigfklcclfpcjaaArgsB
import Derived.Test.YtigfklcclfpcjaaAllE
import Derived.Test.YtigfklcclfpcjaaAlive8
namespace Go.Proofs.Ytigfklcclfpcjaa
set_option linter.unusedVariables false
set_option linter.unusedSimpArgs false
set_option synthInstance.maxSize 20000
set_option maxHeartbeats 400000
set_option maxRecDepth 20000
open Go.RowKit Go.Maps

/-- A step: Kind, W, N, E. -/
structure OpB where
  k : Int
  w : Int
  n : Int
  e : Ent
def oc8 (p : OpB) (x : Value) : List Value := [.int .i64 p.k, .int .i64 p.w, .int .i64 p.n, .int .i64 p.e.w, .int .i64 p.e.i, .int .u64 p.e.p, .int .i64 p.e.t, .int .i64 p.e.u, .int .i64 p.e.n, x, .int .u64 p.e.g]
def RowO (w : World) (v : Value) (qs : List (OpB × Value)) : Prop :=
  (∀ q ∈ qs, I64 q.1.k ∧ I64 q.1.w ∧ I64 q.1.n ∧ EOk q.1.e ∧ Rd w q.2 q.1.e.b) ∧ ∃ (a : Option Addr) (cap : Nat), v = .slice a qs.length cap ∧ qs.length ≤ cap ∧ cap ≤ maxLen ∧
    (0 < qs.length → ∃ b off, a = some ⟨b, off, none⟩ ∧ ∀ (i : Nat) (q : OpB × Value), qs[i]? = some q → ∀ j u, (oc8 q.1 q.2)[j]? = some u → w.cell? ⟨b, off + i * 11 + j, none⟩ = some u)
theorem RowO.len {w : World} {v : Value} {qs : List (OpB × Value)} (h : RowO w v qs) : ∃ a cap, v = .slice a qs.length cap := ⟨h.2.choose, h.2.choose_spec.choose, h.2.choose_spec.choose_spec.1⟩
theorem RowO.cap {w : World} {a : Option Addr} {n cap : Nat} {qs : List (OpB × Value)} (h : RowO w (.slice a n cap) qs) : n ≤ cap ∧ cap ≤ 9223372036854775807 := by
  obtain ⟨_, a', cap', e, h1, h2, _⟩ := h
  simp only [Value.slice.injEq] at e
  unfold maxLen at h2
  omega
theorem RowO.at {w w' : World} {a : Option Addr} {n cap : Nat} {qs : List (OpB × Value)} (h : RowO w (.slice a n cap) qs) (hb : Below w.heap.size w w') {i : Nat} {q : OpB × Value} (hi : qs[i]? = some q) :
    ∃ b off, a = some ⟨b, off, none⟩ ∧ ∀ j u, (oc8 q.1 q.2)[j]? = some u → w'.cell? ⟨b, off + i * 11 + j, none⟩ = some u := by
  obtain ⟨_, a', cap', e, h1, h2, h3⟩ := h
  have hil := (List.getElem?_eq_some_iff.1 hi).1
  obtain ⟨b, off, ha, hc⟩ := h3 (by omega)
  simp only [Value.slice.injEq] at e
  refine ⟨b, off, e.1.trans ha, fun j u hj => ?_⟩
  have := hc i q hi j u hj
  rw [World.cell?_of_block (hb.block b (World.block_lt_of_cell? w _ this))]
  exact this

theorem light_any (w : World) (v : Value) (qs : List (OpB × Value)) (h : RowO w v qs) : Calls Try.prog 7 #[v] w fun r w' => (r = .returned (.bool true) ∨ r = .returned (.bool false)) ∧ w' = w := by
  obtain ⟨a, cap, rfl⟩ := h.len
  have hcap := h.cap
  have HV : Hid (RowO w (.slice a qs.length cap) qs) := h
  clear h
  by_cases hl : 60 < qs.length
  · go_enter Try.func7, Try.ntmps7
    go_wp2
    go_ret
    exact ⟨.inr rfl, rfl⟩
  go_enter Try.func7, Try.ntmps7
  go_wp2
  go_loopw [3] (fun i wr => ∃ k : Nat, i = .int .i64 k ∧ k ≤ qs.length ∧ Hid (w = wr)) (fun i _ => qs.length - (intOf i).toNat)
  case atStart => exact ⟨0, rfl, by omega, (show w = w from rfl)⟩
  case round =>
    obtain ⟨k, rfl, hk, HZ⟩ := hrel
    have hz := HZ.out
    subst hz
    clear HZ
    by_cases hkl : k < qs.length
    · obtain ⟨q, hq⟩ : ∃ q, qs[k]? = some q := ⟨_, List.getElem?_eq_getElem hkl⟩
      obtain ⟨b, off, ea, hc⟩ := HV.out.at (Below.refl _ _) hq
      subst ea
      have hE := HV.out.1 q (List.mem_of_getElem? hq)
      have c9 := hc 9 _ rfl
      obtain ⟨ax, cx, hxx⟩ := hE.2.2.2.2.len
      rw [hxx] at c9
      have hbl : q.1.e.b.length ≤ 9223372036854775807 := by
        have h9 := hE.2.2.2.2
        rw [hxx] at h9
        have := h9.cap
        omega
      generalize q.1.e.b.length = nb at *
      clear hc hq hE hxx
      by_cases hlong : 1200 < nb
      · go_wp2
        go_ret
        exact ⟨.inr rfl, rfl⟩
      · go_wp2
        go_roundw
        case rel => exact ⟨k + 1, by go_num, by omega, trivial⟩
        case measure => simp [intOf]; omega
    · obtain rfl : k = qs.length := by omega
      go_wp2
      go_ret
      exact ⟨.inl rfl, rfl⟩

theorem rhold_any {w : World} {o : Nat → Nat} {j b : Nat} {most : Int} {M : List Ent} {e : Ent} {x : Value} (h : RBufIs w o j b most M) (hs : Srt M) (hj0 : j ≠ 0) (he : EOk e) (hx : Kp0 w o x e.b) (hfew : M.length ≤ 16) :
    Calls Try.prog 11 #[ptr b, ev e x] w fun r w' => r = .returned (.int .i64 (holdM most M e).1) ∧ ∃ o', RBufIs w' o' j b most (holdM most M e).2 ∧ Mv [j] w o w' o' := by
  obtain ⟨v, ps, h⟩ := h
  have EQ : ∀ K : Int × List Ent, holdM most M e = K → (Calls Try.prog 11 #[ptr b, ev e x] w fun r w' => r = .returned (.int .i64 K.1) ∧ ∃ o', RBufIs w' o' j b most K.2 ∧ Mv [j] w o w' o') → Calls Try.prog 11 #[ptr b, ev e x] w fun r w' => r = .returned (.int .i64 (holdM most M e).1) ∧ ∃ o', RBufIs w' o' j b most (holdM most M e).2 ∧ Mv [j] w o w' o' := fun K hK hc => by rw [hK]; exact hc
  cases hr : rightB e with
  | false =>
    refine EQ (1, M) (by unfold holdM; rw [hr, if_neg (by simp)]) ?_
    refine (rhold_bad (b := b) hx.1 hr).mono ?_
    rintro r w' ⟨rfl, hb⟩
    exact ⟨rfl, _, ⟨v, ps, h.below hb⟩, Mv.of_below 0 hb⟩
  | true =>
    cases hf : findM M e.w e.i with
    | some f =>
      refine EQ (if sameB f e then 8 else 9, M) (by unfold holdM; rw [hr, if_pos rfl, hf]) ?_
      refine (rhold_met h hs hx.1 hr hf).mono ?_
      rintro r w' ⟨rfl, hb⟩
      exact ⟨rfl, _, ⟨v, ps, h.below hb⟩, Mv.of_below 0 hb⟩
    | none =>
      by_cases hfl : most ≤ (M.length : Int)
      · refine EQ (3, M) (by unfold holdM; rw [hr, if_pos rfl, hf]; (try dsimp only); rw [if_pos hfl]) ?_
        refine (rhold_full h hx.1 hr hf hfl).mono ?_
        rintro r w' ⟨rfl, hb⟩
        exact ⟨rfl, _, ⟨v, ps, h.below hb⟩, Mv.of_below 0 hb⟩
      · refine EQ (0, insM e M) (by unfold holdM; rw [hr, if_pos rfl, hf]; (try dsimp only); rw [if_neg hfl]) ?_
        exact rhold_put h hj0 he hx hr hf hfl hfew

/-- What First answers. -/
def fE (M : List Ent) : Ent := M.head?.getD zeroE
def fB (M : List Ent) : Bool := M.head?.isSome
theorem bfirst_any {w : World} {o : Nat → Nat} {j b : Nat} {most : Int} {M : List Ent} (h : BufIs w o j b most M) : Calls Try.prog 20 #[ptr b] w fun r w' => ∃ y, r = .returned (.tuple #[ev (fE M) y, .bool (fB M)]) ∧ Kp0 w' (newTo o w 0) y (fE M).b ∧ Below w.heap.size w w' := by
  cases M with
  | nil =>
    refine (bfirst_none h).mono ?_
    rintro r w' ⟨rfl, hb⟩
    exact ⟨_, rfl, kp0_nil _ _, hb⟩
  | cons e M => exact (bfirst_some h).2
theorem rfirst_any {w : World} {o : Nat → Nat} {j b : Nat} {most : Int} {M : List Ent} (h : RBufIs w o j b most M) : Calls Try.prog 21 #[ptr b] w fun r w' => ∃ y, r = .returned (.tuple #[ev (fE M) y, .bool (fB M)]) ∧ Kp0 w' (newTo o w 0) y (fE M).b ∧ Below w.heap.size w w' := by
  cases M with
  | nil =>
    refine (rfirst_none h).mono ?_
    rintro r w' ⟨rfl, hb⟩
    exact ⟨_, rfl, kp0_nil _ _, hb⟩
  | cons e M => exact (rfirst_some h).2

/-- Both buffers stand for the same list. -/
structure PG (w wr : World) (bP bR : Nat) (most : Int) (o' : Nat → Nat) (M : List Ent) : Prop where
  bufP : BufIs wr o' 5 bP most M
  bufR : RBufIs wr o' 6 bR most M
  mv : Mv [5, 6] w (fun _ => 0) wr o'
section
variable {w wr w2 : World} {bP bR : Nat} {most : Int} {o' o2 : Nat → Nat} {M M2 : List Ent}
theorem PG.below (p : PG w wr bP bR most o' M) : Below w.heap.size w wr := p.mv.below (Nat.le_refl _) (fun k hk => by simp)
theorem PG.past (p : PG w wr bP bR most o' M) (hb : Below wr.heap.size wr w2) : PG w w2 bP bR most (newTo o' wr 0) M := ⟨p.bufP.below hb, p.bufR.below hb, p.mv.trans (Mv.of_below 0 hb)⟩
theorem PG.drew (p : PG w wr bP bR most o' M) : PG w wr.drew bP bR most o' M := ⟨p.bufP.mv (mv_drewn (I := []) wr o') (by simp) (by simp), p.bufR.mv (mv_drewn (I := []) wr o') (by simp) (by simp), mv_drew p.mv⟩
/-- Both have moved. -/
theorem PG.both {w3 : World} {o3 : Nat → Nat} (p : PG w wr bP bR most o' M) (h2 : BufIs w2 o2 5 bP most M2) (m2 : Mv [5] wr o' w2 o2) (h3 : RBufIs w3 o3 6 bR most M2) (m3 : Mv [6] w2 o2 w3 o3) : PG w w3 bP bR most o3 M2 := ⟨h2.mv m3 (by simp) (by simp), h3, (p.mv.trans (m2.widen (by simp))).trans (m3.widen (by simp))⟩
end
theorem pg_start {w w1 : World} {bP : Nat} {most : Int} (h : BufIs w1 (newTo (fun _ => 0) w 5) 5 bP most []) (hb : Below w.heap.size w w1) {w2 : World} (hb2 : Below w1.heap.size w1 w2) : PG w (w2.alloc (.cells #[.int .i64 most, .slice none 0 0] 32)) bP w2.heap.size most (newTo (newTo (newTo (fun _ => 0) w 5) w1 0) w2 6) [] := by
  have m2 : Mv [] w1 (newTo (fun _ => 0) w 5) w2 (newTo (newTo (fun _ => 0) w 5) w1 0) := Mv.of_below 0 hb2
  have m3 : Mv [] w2 (newTo (newTo (fun _ => 0) w 5) w1 0) (w2.alloc (.cells #[.int .i64 most, .slice none 0 0] 32)) (newTo (newTo (newTo (fun _ => 0) w 5) w1 0) w2 6) := Mv.of_below 6 (balloc (Below.refl _ _) _)
  exact ⟨(h.mv m2 (by simp) (by simp)).mv m3 (by simp) (by simp), ⟨.slice none 0 0, [], blk_new w2 _ 32, newTo_new (Nat.le_refl _), out_nil _ _ _ _, rfl⟩, ((Mv.of_below 5 hb).trans (m2.widen (by simp))).trans (m3.widen (by simp))⟩
end Go.Proofs.Ytigfklcclfpcjaa
