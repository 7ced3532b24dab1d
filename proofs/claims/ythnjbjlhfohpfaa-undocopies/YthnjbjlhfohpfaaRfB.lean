/-
  The reference's Do.
  The reference's Build.
-/
import Derived.Test.YthnjbjlhfohpfaaRfS
import Derived.Test.YthnjbjlhfohpfaaTsD
import Derived.Test.YthnjbjlhfohpfaaTsG
import Derived.Test.YthnjbjlhfohpfaaTsF
namespace Go.Proofs.Ythnjbjlhfohpfaa
section
set_option linter.unusedVariables false
set_option linter.unusedSimpArgs false
set_option synthInstance.maxSize 20000
set_option maxHeartbeats 2000000
set_option maxRecDepth 20000
open Go.RowKit Go.Maps

theorem rd_pastitb {w w' : World} {g : Nat} {x : IT} {v : Value} {l : List Int} (hr : Rd w v l) (hi : Itb w g x) (hg : w.grownBy w' (some g)) : Rd w' v l := by
  have hr0 := hr
  refine hr.blocks fun hl k hk hlt => ?_
  obtain ⟨_, a, cap, rfl, h1, h2, h3, h4⟩ := hr0
  have hp : 0 < l.length := by cases l with
    | nil => exact absurd rfl hl
    | cons x l => simp
  obtain ⟨b, off, rfl, hc⟩ := h4 hp
  have e1 : b = k := by simpa [Value.ownBlock] using hk
  subst e1
  refine hg.block _ hlt fun e => ?_
  cases e
  have c0 := hc 0 hp
  have hb : w.heap[g]? = some (.cells (ic x).toArray 88 (0, 0)) := hi
  simp [World.cell?, hb] at c0
  have hm := List.mem_of_getElem? c0
  simp only [ic, List.mem_cons, List.not_mem_nil, or_false] at hm
  rcases hm with h | h | h | h | h | h | h | h | h | h <;> simp at h
theorem two_op41 {w w1 : World} {B0 B1 : Nat} {q : OpT} (hw1 : w1 = (w.alloc (.cells (oc q).toArray 36)).alloc (.cells (ic zT).toArray 88)) (h0 : B0 = w.heap.size) (h1 : B1 = w.heap.size + 1) :
    Below w.heap.size w w1 ∧ Opb w1 B0 q ∧ Itb w1 B1 zT ∧ w.heap.size ≤ B1 := by
  subst hw1 h0 h1
  refine ⟨balloc (balloc (Below.refl _ _) _) _, Blk.alloc (opb_new w q) _, ?_, by omega⟩
  have := itb_new (w.alloc (.cells (oc q).toArray 36)) zT
  simpa using this
section
variable {o : Oper} {r : Operand → Value} {w : World} {b : Nat} {q : IT}
theorem exec_zero41 (ho : o.op = .build 88 #[]) : (execOp r o).run Try.prog w = .ok (.value (iv zT)) w := by
  unfold execOp
  simp only [ho]
  go_simp
  rfl
theorem exec_new41 {n p : S} {s : ByteArray} {d : Bool} (x1 x2 x3 x4 : Operand) (ho : o.op = .build 88 #[(0, x1), (1, x2), (2, x3), (3, x4)]) (h1 : r x1 = sv n) (h2 : r x2 = sv p) (h3 : r x3 = .string s) (h4 : r x4 = .bool d) : (execOp r o).run Try.prog w = .ok (.value (iv ⟨⟨n, p, s, d, false, (0, 0), []⟩, none, 0, 0⟩)) w := by
  obtain ⟨n1, n2⟩ := n
  obtain ⟨p1, p2⟩ := p
  unfold sv at h1 h2
  unfold iv ic
  dsimp only at h1 h2 ⊢
  unfold execOp
  simp only [ho]
  go_simp
theorem Itb.setPar {p : S} (h : Itb w b q) : Itb (w.setCells b 2 (sc p)) b { q with m := { q.m with p := p } } := by
  have := Blk.setCells h 2 (sc p) (by rw [ic_len]; simp [sc])
  exact this
theorem Itb.setBy {p : S} (h : Itb w b q) : Itb (w.setCells b 8 (sc p)) b { q with m := { q.m with y := p } } := by
  have := Blk.setCells h 8 (sc p) (by rw [ic_len]; simp [sc])
  exact this
theorem Itb.setName {s : ByteArray} (h : Itb w b q) : Itb (w.setCell ⟨b, 4, none⟩ (.string s)) b { q with m := { q.m with s := s } } := Blk.set h 4 _
theorem Itb.setGone {g : Bool} (h : Itb w b q) : Itb (w.setCell ⟨b, 6, none⟩ (.bool g)) b { q with m := { q.m with g := g } } := Blk.set h 6 _
theorem Itb.setData {a : Option Addr} {n c : Nat} {l : List Int} (h : Itb w b q) : Itb (w.setCell ⟨b, 7, none⟩ (.slice a n c)) b ⟨{ q.m with b := l }, a, n, c⟩ := Blk.set h 7 _
end
section
variable {M : List IM} {q : OpT} {u : IM}
theorem ch1_has (hk : q.k = 1) (h : (findM M q.n).isSome = true) : chM M q = none := by
  unfold chM hasM; rw [if_pos hk, if_pos h]
theorem ch1_nod (hk : q.k = 1) (h : (findM M q.n).isSome = false) (hd : dirM M q.p = false) : chM M q = none := by
  unfold chM hasM; rw [if_pos hk, if_neg (by rw [h]; simp), if_neg (by rw [hd]; simp)]
theorem ch1_new (hk : q.k = 1) (h : (findM M q.n).isSome = false) (hd : dirM M q.p = true) : chM M q = some (newI q) := by
  unfold chM hasM; rw [if_pos hk, if_neg (by rw [h]; simp), if_pos hd]
theorem chx_no (hk : ¬ q.k = 1) (h : findM M q.n = none) : chM M q = none := by
  unfold chM; rw [if_neg hk, h]
theorem ch2_nod (hk : q.k = 2) (f : findM M q.n = some u) (hd : dirM M q.p = false) : chM M q = none := by
  unfold chM; rw [if_neg (by omega), f]; show (if q.k = 2 then _ else _) = _; rw [if_pos hk, if_neg (by rw [hd]; simp)]
theorem ch2_in (hk : q.k = 2) (f : findM M q.n = some u) (hd : dirM M q.p = true) (hw : withinM M 301 q.n q.p = true) : chM M q = none := by
  unfold chM; rw [if_neg (by omega), f]; show (if q.k = 2 then _ else _) = _; rw [if_pos hk, if_pos hd, if_pos hw]
theorem ch2_mov (hk : q.k = 2) (f : findM M q.n = some u) (hd : dirM M q.p = true) (hw : withinM M 301 q.n q.p = false) : chM M q = some (movI u q) := by
  unfold chM; rw [if_neg (by omega), f]; show (if q.k = 2 then _ else _) = _; rw [if_pos hk, if_pos hd, if_neg (by rw [hw]; simp)]
theorem ch3_rem (hk : q.k = 3) (f : findM M q.n = some u) : chM M q = some (remI u) := by
  unfold chM; rw [if_neg (by omega), f]; show (if q.k = 2 then _ else _) = _; rw [if_neg (by omega), if_pos hk]
theorem ch4_dir (hk : q.k = 4) (f : findM M q.n = some u) (hd : u.d = true) : chM M q = none := by
  unfold chM; rw [if_neg (by omega), f]; show (if q.k = 2 then _ else _) = _; rw [if_neg (by omega), if_neg (by omega), if_pos hd]
theorem ch4_wri (hk : q.k = 4) (f : findM M q.n = some u) (hd : u.d = false) : chM M q = some (wriI u q) := by
  unfold chM; rw [if_neg (by omega), f]; show (if q.k = 2 then _ else _) = _; rw [if_neg (by omega), if_neg (by omega), if_neg (by rw [hd]; simp)]
end
theorem GotT.found {w : World} {L : List IT} {n : S} {x : IT} (h : GotT w L n x true) : findM (L.map IT.m) n = some x.m := by
  have h1 := h.is
  have h2 := h.m
  cases hf : findM (L.map IT.m) n with
  | none => rw [hf] at h1; cases h1
  | some y => rw [hf] at h2; rw [h2]; rfl
theorem GotT.lost {w : World} {L : List IT} {n : S} {x : IT} (h : GotT w L n x false) : findM (L.map IT.m) n = none := by
  have h1 := h.is
  cases hf : findM (L.map IT.m) n with
  | none => rfl
  | some y => rw [hf] at h1; cases h1
section
variable {w w3 w8 : World} {tb B1 : Nat} {v : Value} {L : List IT} {q : OpT} {x : IT} {b : Bool}
end
end

section
set_option linter.unusedVariables false
set_option linter.unusedSimpArgs false
set_option synthInstance.maxSize 20000
set_option maxHeartbeats 2000000
set_option maxRecDepth 20000
open Go.RowKit Go.Maps

theorem FirstOf.len {O l : List OpT} (h : FirstOf O l) : O.length ≤ l.length := nodup_le (h.str.imp fun {x y} hxy e => by subst e; exact ltP_irrefl _ hxy) fun x hx => h.mem hx
end
end Go.Proofs.Ythnjbjlhfohpfaa
