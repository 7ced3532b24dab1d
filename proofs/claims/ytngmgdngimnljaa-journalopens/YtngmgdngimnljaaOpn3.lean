/-
  What is found again: the records ahead, and the one that was appended.
-/
import Derived.Test.YtngmgdngimnljaaOpn2
import Derived.Test.YtngmgdngimnljaaLawCrash
namespace Go.Proofs.Ytngmgdngimnljaa
set_option linter.unusedVariables false
set_option linter.unusedSimpArgs false
set_option synthInstance.maxSize 20000
set_option maxHeartbeats 2000000
set_option maxRecDepth 20000
open Go.RowKit Go.Maps

theorem got_same {B : Nat} {w1 : World} {a : Option Addr} {n c i : Nat} {L : List (List Int)} {b : List Int} (h : OutL B w1 (.slice a n c) L) (hi : L[i]? = some b) :
    ∃ bb off ea ec, a = some ⟨bb, off, none⟩ ∧ ec ≤ 9223372036854775807 ∧ ∀ w', Below w1.heap.size w1 w' → w'.cell? ⟨bb, off + i, none⟩ = some (.slice ea b.length ec) ∧ (∀ x, Rd w' x b → Calls Try.prog 30 #[.slice ea b.length ec, x] w' fun r w'' => r = .returned (.bool true) ∧ Below w'.heap.size w' w'') := by
  obtain ⟨qs, h1, h2, h3⟩ := h
  subst h2
  rw [LL, List.getElem?_map] at hi
  obtain ⟨q, hq, rfl⟩ : ∃ q, qs[i]? = some q ∧ q.2 = b := by
    cases h9 : qs[i]? with
    | none => rw [h9] at hi; cases hi
    | some q => rw [h9] at hi; exact ⟨q, rfl, Option.some.inj hi⟩
  obtain ⟨bb, off, rfl, hcell⟩ := h1.at hq
  have hrd := h1.rd q (List.mem_of_getElem? hq)
  obtain ⟨ea, ec, he⟩ := hrd.len
  rw [he] at hcell hrd
  refine ⟨bb, off, ea, ec, rfl, hrd.cap.2.2, fun w' hb => ⟨(hb.cell (World.block_lt_of_cell? w1 _ hcell)).trans hcell, fun x hx => ?_⟩⟩
  have := same_any _ x q.2 q.2 w' (hrd.below hb) hx
  rwa [decide_eq_true rfl] at this
theorem got_lists {B : Nat} {w1 : World} {o : Nat → Nat} {a : Option Addr} {n c : Nat} {xv : Value} {L more : List (List Int)} (h : OutL B w1 (.slice a n c) (L ++ more)) (hk : KL w1 o xv L) (hl : L.length ≤ 1000) : Calls Try.prog 12 #[.slice a L.length c, xv] w1 fun r w' => r = .returned (.bool true) ∧ Below w1.heap.size w1 w' := by
  obtain ⟨qs, h1, h2, h3⟩ := h
  obtain ⟨ps, p1, p2⟩ := hk
  obtain ⟨a', c', e⟩ := h1.len
  obtain ⟨rfl, rfl, rfl⟩ : a = a' ∧ n = qs.length ∧ c = c' := by simpa using e
  have hql : qs.length = L.length + more.length := by rw [← LL_len, h2, List.length_append]
  have h12 := lists12 (rl_take (n := L.length) h1 (by omega)) p1.rl (by rw [List.length_take]; omega)
  have ht : LL (qs.take L.length) = LL ps := by rw [LL_take, h2, List.take_left' rfl, p2]
  rwa [ht, decide_eq_true rfl] at h12
section
variable {w wr : World} {o : Nat → Nat} {db cb jb mb : Nat} {D E : Dk} {J M : Jk} {gv xv : Value} {gL xL : List (List Int)} {N : Nat}
theorem OS.lists (h : OS w wr o db cb jb mb D E J M gv gL xv gL N) (hl : gL.length ≤ 1000) : Calls Try.prog 12 #[gv, xv] wr fun r w' => r = .returned (.bool true) ∧ Below wr.heap.size wr w' := by
  obtain ⟨qs, q1, q2⟩ := h.got
  obtain ⟨ps, p1, p2⟩ := h.want
  have := lists12 q1.rl p1.rl (by rw [← LL_len, q2]; exact hl)
  rwa [q2, p2, decide_eq_true rfl] at this
/-- What a journal tells of itself. -/
theorem tells {w : World} {jb db : Nat} {J : Jk} (h : Blk w jb 95 (jc db J)) (hok : JOk J) {w' : World} (hb : Below w.heap.size w w') :
    Calls Try.prog 26 #[ptr jb] w' (fun r w'' => r = .returned (.int .i64 (J.count : Int)) ∧ w'' = w') ∧ Calls Try.prog 27 #[ptr jb] w' (fun r w'' => r = .returned (.int .i64 ((J.fin : Int) - (J.next : Int))) ∧ Below w'.heap.size w' w'') ∧ Calls Try.prog 28 #[ptr jb] w' (fun r w'' => r = .returned (.int .u32 J.round) ∧ w'' = w') := by
  have h' := h.below hb
  have h27 := room27 h' hok
  rw [Int.natCast_sub hok.nf] at h27
  exact ⟨count26 h', h27, round28 h'⟩
theorem append_long {J : Jk} {D : Dk} {l : List Int} (h : 4000 < l.length) : J.append D l = (3, J, D) := by
  unfold Jk.append
  rw [if_pos h]
end
end Go.Proofs.Ytngmgdngimnljaa
