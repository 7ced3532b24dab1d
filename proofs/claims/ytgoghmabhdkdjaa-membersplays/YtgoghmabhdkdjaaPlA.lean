/-
  The walk of MembersPlays: the state behind each change of any log, and who is a member then.
-/
import Derived.Test.YtgoghmabhdkdjaaAll
import Derived.Test.YtgoghmabhdkdjaaApp2
import Derived.Test.YtgoghmabhdkdjaaRfB2
namespace Go.Proofs.Ytgoghmabhdkdjaa
set_option linter.unusedVariables false
set_option linter.unusedSimpArgs false
set_option synthInstance.maxSize 20000
set_option maxHeartbeats 2000000
set_option maxRecDepth 20000
open Go.RowKit Go.Maps

theorem light_each3 {cs : List Cq} (h : lightB (cs.map (·.1)) = true) : cs.length ≤ 60 ∧ ∀ q ∈ cs, q.1.ws.length ≤ 20 := by
  unfold lightB at h
  rw [Bool.and_eq_true] at h
  refine ⟨by simpa using h.1, fun q hq => ?_⟩
  have := List.all_eq_true.1 h.2 q.1 (List.mem_map.2 ⟨q, hq, rfl⟩)
  unfold lightC at this
  rw [Bool.and_eq_true] at this
  have := of_decide_eq_true this.1
  exact this.1
/-- The row of lv is not the one of vo. -/
def Sep (lv vo : Value) : Prop := ∀ j, lv.ownBlock = some j → vo.ownBlock ≠ some j
theorem rowM_lt {w : World} {v : Value} {l : List Mb} (h : RowF mc w v l) (hl : 0 < l.length) {j : Nat} (hj : v.ownBlock = some j) : j < w.heap.size := by
  obtain ⟨a, cap, rfl, h1, h2, h3, h4⟩ := h
  obtain ⟨b, off, rfl, hc⟩ := h4 hl
  cases hj
  obtain ⟨m, hm⟩ : ∃ m, l[0]? = some m := ⟨_, List.getElem?_eq_getElem hl⟩
  exact World.block_lt_of_cell? w _ (hc (0 * 5 + 0) (.int .i64 m.w) (flat_at mc_len hm 0 _ rfl))
theorem VarAt.kept {w w' : World} {b : Nat} {t : TypeId} {lv vo : Value} {S : Sm} (h : VarAt w b t lv S) (hs : Sep lv vo) (hb : vo.ownBlock ≠ some b) (hk : ∀ j, j < w.heap.size → vo.ownBlock ≠ some j → w'.heap[j]? = w.heap[j]?) : VarAt w' b t lv S :=
  ⟨h.blk.block (hk b h.blk.lt hb), h.row.blocks fun j hj hlt => hk j hlt (hs j hj)⟩
theorem grown_kept {w2 w3 : World} {o : Obj} {vo : Value} (k2 : (w2.alloc o).grownBy w3 vo.ownBlock) : ∀ j, j < w2.heap.size → vo.ownBlock ≠ some j → w3.heap[j]? = w2.heap[j]? := fun j hj hn => by
  rw [k2.block j (by simp; omega) (fun e => hn e.symm)]
  exact (balloc (Below.refl _ _) o).block j hj
/-- Both states, in variables of their own, beside the list of changes. -/
structure PlSt (wy wr : World) (B sb mb : Nat) (S : Sm) (va vb vo : Value) (ds : List Cq) : Prop where
  s : VarAt wr sb 28 va S
  m : VarAt wr mb 32 vb S
  all : AllAt wy wr B vo ds
  sa : Sep va vo
  sb : Sep vb vo
  bel : Below wy.heap.size wy wr
  ok : MOk S
  pos : 0 < S.l.length
theorem PlSt.below {wy wr w' : World} {B sb mb : Nat} {S : Sm} {va vb vo : Value} {ds : List Cq} (h : PlSt wy wr B sb mb S va vb vo ds) (hb : Below wr.heap.size wr w') : PlSt wy w' B sb mb S va vb vo ds :=
  ⟨h.s.below hb, h.m.below hb, h.all.below hb, h.sa, h.sb, bnext h.bel hb, h.ok, h.pos⟩
theorem PlSt.snoc {wy wr w2 w3 : World} {B sb mb : Nat} {S : Sm} {va vb vo v3 : Value} {ds : List Cq} {q : Cq} {qs : List Wq} {o : Obj} (h : PlSt wy wr B sb mb S va vb vo ds) (h1 : sb < B) (h2 : mb < B) (hBw : B ≤ wr.heap.size) (hwB : wy.heap.size ≤ B) (hb : Below wr.heap.size wr w2) (hc : CgAt w2 q.1 q.2.1 q.2.2 qs) (hf : ∀ j, q.2.1.ownBlock = some j → wr.heap.size ≤ j ∧ j < w2.heap.size) (hr : ∀ x ∈ qs, Rd wy x.2 x.1.b) (ho : Rd wy q.2.2 q.1.o)
    (k1 : w3.ownsRow 0 38 6 v3 (ds ++ [q]).length (flat cqf (ds ++ [q]))) (k2 : (w2.alloc o).grownBy w3 vo.ownBlock) (k3 : ∀ j, v3.ownBlock = some j → vo.ownBlock = some j ∨ (w2.alloc o).heap.size ≤ j) : PlSt wy w3 B sb mb S va vb v3 (ds ++ [q]) := by
  obtain ⟨ha, hbw⟩ := h.all.snoc hBw h.bel hwB hb hc hf hr ho k1 k2 k3
  have hn : ∀ b, b < B → vo.ownBlock ≠ some b := fun b hb e => by have := h.all.new b e; omega
  have hsz := hb.size
  have sep : ∀ lv, Sep lv vo → RowF mc wr lv S.l → Sep lv v3 := fun lv hs hrow j hj e => by
    rcases k3 j e with r | r
    · exact hs j hj r
    · have := rowM_lt hrow h.pos hj
      simp at r
      omega
  exact ⟨(h.s.below hb).kept h.sa (hn sb h1) (grown_kept k2), (h.m.below hb).kept h.sb (hn mb h2) (grown_kept k2), ha, sep va h.sa h.s.row, sep vb h.sb h.m.row, hbw, h.ok, h.pos⟩
theorem PlSt.put {wy wr : World} {B sb mb : Nat} {S T : Sm} {va vb vo ta tb : Value} {ds : List Cq} (h : PlSt wy wr B sb mb S va vb vo ds) (h1 : sb < B) (h2 : mb < B) (h3 : wy.heap.size ≤ sb) (h4 : wy.heap.size ≤ mb) (hne : sb ≠ mb) (hta : RowF mc wr ta T.l) (htb : RowF mc wr tb T.l) (hok : MOk T) (hp : 0 < T.l.length) (hsa : Sep ta vo) (hsb : Sep tb vo) : PlSt wy (putS (putS wr sb ta T.e) mb tb T.e) B sb mb T ta tb vo ds := by
  have m1 : VarAt (putS wr sb ta T.e) mb 32 vb S := ⟨putS_other h.m.blk (Ne.symm hne), putS_row h.s hta h.m.row⟩
  have r1 : RowF mc (putS wr sb ta T.e) tb T.l := putS_row h.s hta htb
  have s1 : VarAt (putS wr sb ta T.e) sb 28 ta T := putS_at h.s hta
  have b1 := putS_below (v := ta) (e := T.e) h.bel h3
  exact ⟨⟨putS_other s1.blk hne, putS_row m1 r1 s1.row⟩, putS_at m1 r1, (h.all.putS h.bel h3 h1).putS b1 h4 h2, hsa, hsb, putS_below b1 h4, hok, hp⟩
end Go.Proofs.Ytgoghmabhdkdjaa
