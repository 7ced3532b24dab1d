/-
  What is held comes out once: what BufferOnce asks of the plain lists, and its three buffers' worth of memory.
-/
import Derived.Test.YtigfklcclfpcjaaLawFull
import Derived.Test.YtigfklcclfpcjaaArgsB
namespace Go.Proofs.Ytigfklcclfpcjaa
set_option linter.unusedVariables false
set_option linter.unusedSimpArgs false
set_option synthInstance.maxSize 20000
set_option maxHeartbeats 400000
set_option maxRecDepth 20000
open Go.RowKit Go.Maps

theorem hold_zero {most : Int} {M : List Ent} {e : Ent} (h : (holdM most M e).1 = 0) : rightE e ∧ findM M e.w e.i = none ∧ (M.length : Int) < most ∧ (holdM most M e).2 = insM e M := by
  unfold holdM at h ⊢
  split at h
  · rename_i hr
    split at h
    · dsimp only at h; split at h <;> omega
    · rename_i hf
      split at h
      · simp at h
      · rename_i hl
        rw [if_pos hr, hf]
        (try dsimp only)
        rw [if_neg hl]
        exact ⟨(rightB_iff e).1 hr, rfl, by omega, rfl⟩
  · simp at h
theorem hold_nz {most : Int} {M : List Ent} {e : Ent} (h : (holdM most M e).1 ≠ 0) : (holdM most M e).2 = M := by
  unfold holdM at h ⊢
  split
  · split
    · rfl
    · split
      · rfl
      · rename_i h1 _ h2 h3
        rw [if_pos h1, h2] at h
        (try dsimp only at h)
        rw [if_neg h3] at h
        exact absurd rfl h
  · rfl
theorem hold_ok {most : Int} {M : List Ent} {e : Ent} (hr : rightE e) (hf : findM M e.w e.i = none) (hl : (M.length : Int) < most) : holdM most M e = (0, insM e M) := by
  unfold holdM
  rw [if_pos ((rightB_iff e).2 hr), hf]
  (try dsimp only)
  rw [if_neg (by omega)]
theorem srt_eq {M N : List Ent} (h : Srt M) (k : Srt N) (hp : M.Perm N) : M = N := by
  refine List.Perm.eq_of_pairwise (le := fun e f => keyB e f = true) (fun a b ha hb h1 h2 => ?_) h k hp
  rw [keyB_iff] at h1 h2
  omega

/-- Two buffers and a row beside each other. -/
structure OnP (w wr : World) (ba bb : Nat) (v9 : Value) (o' : Nat → Nat) (M Mb : List Ent) (hs : List (Ent × Value)) : Prop where
  bufA : BufIs wr o' 5 ba 16 M
  bufB : BufIs wr o' 6 bb 16 Mb
  out : OutAt wr o' 7 w.heap.size v9 hs
  mv : Mv [5, 6, 7] w (fun _ => 0) wr o'
  perm : (hs.map (·.1)).Perm M
theorem OnP.len {w wr : World} {ba bb : Nat} {v9 : Value} {o' : Nat → Nat} {M Mb : List Ent} {hs : List (Ent × Value)} (p : OnP w wr ba bb v9 o' M Mb hs) : hs.length = M.length := by
  have := p.perm.length_eq
  rwa [List.length_map] at this
theorem OnP.below {w wr : World} {ba bb : Nat} {v9 : Value} {o' : Nat → Nat} {M Mb : List Ent} {hs : List (Ent × Value)} (p : OnP w wr ba bb v9 o' M Mb hs) : Below w.heap.size w wr := p.mv.below (Nat.le_refl _) (fun k hk => by simp)
theorem OnP.past {w wr w2 : World} {ba bb : Nat} {v9 : Value} {o' : Nat → Nat} {M Mb : List Ent} {hs : List (Ent × Value)} (p : OnP w wr ba bb v9 o' M Mb hs) (hb : Below wr.heap.size wr w2) : OnP w w2 ba bb v9 (newTo o' wr 0) M Mb hs :=
  ⟨p.bufA.below hb, p.bufB.below hb, p.out.mv (Mv.of_below (I := []) 0 hb) (by simp) (by simp), p.mv.trans (Mv.of_below 0 hb), p.perm⟩
/-- A holds one more, or not. -/
theorem OnP.holdA {w wr w3 : World} {ba bb : Nat} {v9 : Value} {o' o3 : Nat → Nat} {M Mb M' : List Ent} {hs : List (Ent × Value)} (p : OnP w wr ba bb v9 o' M Mb hs) (h3 : BufIs w3 o3 5 ba 16 M') (m : Mv [5] wr o' w3 o3) : BufIs w3 o3 6 bb 16 Mb ∧ OutAt w3 o3 7 w.heap.size v9 hs ∧ Mv [5, 6, 7] w (fun _ => 0) w3 o3 :=
  ⟨p.bufB.mv m (by simp) (by simp), p.out.mv m (by simp) (by simp), p.mv.trans (m.widen (by simp))⟩
theorem OnP.put {w wr w3 w5 : World} {ba bb : Nat} {v9 v5 : Value} {o' o3 : Nat → Nat} {M Mb : List Ent} {hs : List (Ent × Value)} {e : Ent} {x : Value} (p : OnP w wr ba bb v9 o' M Mb hs) (he : EOk e) (hx : Kp0 wr o' x e.b) (h3 : BufIs w3 o3 5 ba 16 (insM e M)) (m : Mv [5] wr o' w3 o3) (ob : Obj) (hg : (w3.alloc ob).grownBy w5 v9.ownBlock)
    (hrow : w5.ownsRow 0 38 8 v5 (hs ++ [(e, x)]).length (flatE (hs ++ [(e, x)]))) (hwh : ∀ k, v5.ownBlock = some k → v9.ownBlock = some k ∨ (w3.alloc ob).heap.size ≤ k) : ∃ o5, OnP w w5 ba bb v5 o5 (insM e M) Mb (hs ++ [(e, x)]) := by
  obtain ⟨g1, g2, g3⟩ := p.holdA h3 m
  obtain ⟨o5, h5, m5⟩ := g2.add (by omega) g3.size he (hx.mv m (by simp)) ob hg hrow hwh
  refine ⟨o5, h3.mv m5 (by simp) (by simp), g1.mv m5 (by simp) (by simp), h5, g3.trans (m5.widen (by simp)), ?_⟩
  rw [List.map_append]
  exact ((List.Perm.append_right _ p.perm).trans (List.perm_append_comm (l₁ := M) (l₂ := [e]))).trans (ins_perm e M).symm
/-- Two of the row change places. -/
theorem OnP.swap {w wr w2 : World} {ba bb g n cap : Nat} {o' : Nat → Nat} {M Mb : List Ent} {hs : List (Ent × Value)} (p : OnP w wr ba bb (.slice (some ⟨g, 0, none⟩) n cap) o' M Mb hs) (hb : Below wr.heap.size wr w2) {k : Nat} {q0 qk : Ent × Value} (h0 : hs[0]? = some q0) (hk : hs[k]? = some qk) :
    ∃ o5 hs', OnP w (put8 (put8 w2 g 0 qk.1 qk.2) g (k * 8) q0.1 q0.2) ba bb (.slice (some ⟨g, 0, none⟩) n cap) o5 M Mb hs' := by
  have p2 := p.past hb
  have h0l : 0 < hs.length := (List.getElem?_eq_some_iff.1 h0).1
  have hkl : k < hs.length := (List.getElem?_eq_some_iff.1 hk).1
  have e0 := p2.out.ents q0 (List.mem_of_getElem? h0)
  have ek := p2.out.ents qk (List.mem_of_getElem? hk)
  have S1 := p2.out.set (by omega) (k := 0) h0l ek.1 ek.2
  rw [Nat.zero_mul] at S1
  have S2 := S1.1.set (by omega) (k := k) (by rw [List.length_set]; exact hkl) e0.1 (e0.2.mv S1.2 (by simp))
  have m := S1.2.trans S2.2
  refine ⟨_, _, p2.bufA.mv m (by simp) (by simp), p2.bufB.mv m (by simp) (by simp), S2.1, p2.mv.trans (m.widen (by simp)), ?_⟩
  have hsw : (hs.set 0 (qk.1, qk.2)).set k (q0.1, q0.2) = swapL zq hs 0 k := by
    unfold swapL
    rw [getD_of h0, getD_of hk]
  rw [hsw]
  exact ((swapL_perm zq h0l hkl).map _).trans p.perm
/-- B holds the next one of the row. -/
theorem OnP.next {w wr : World} {ba bb : Nat} {v9 : Value} {o' : Nat → Nat} {M Mb : List Ent} {hs : List (Ent × Value)} (p : OnP w wr ba bb v9 o' M Mb hs) {k : Nat} {q : Ent × Value} (hk : hs[k]? = some q) (hm : Mb.Perm ((hs.take k).map (·.1))) : holdM 16 Mb q.1 = (0, insM q.1 Mb) ∧ (insM q.1 Mb).Perm ((hs.take (k + 1)).map (·.1)) := by
  have hkl : k < hs.length := (List.getElem?_eq_some_iff.1 hk).1
  have hql : q.1 ∈ M := p.perm.mem_iff.1 (List.mem_map_of_mem (List.mem_of_getElem? hk))
  have hr := p.bufA.right _ hql
  have hM := p.bufA.len
  have hMb : Mb.length = k := by
    have := hm.length_eq
    rw [List.length_map, List.length_take] at this
    omega
  have hlen := p.len
  refine ⟨hold_ok hr ?_ (by omega), ?_⟩
  · cases hf : findM Mb q.1.w q.1.i with
    | none => rfl
    | some f =>
      exfalso
      obtain ⟨h1, h2, h3⟩ := findM_some hf
      obtain ⟨q', hq', rfl⟩ := List.mem_map.1 (hm.mem_iff.1 h1)
      obtain ⟨m, hm'⟩ := List.mem_iff_getElem?.1 hq'
      have hmk : m < k := by
        have := (List.getElem?_eq_some_iff.1 hm').1
        rw [List.length_take] at this
        omega
      rw [List.getElem?_take_of_lt hmk] at hm'
      -- the same entry at two places of a row without doubles
      have hnd : (hs.map (·.1)).Pairwise (fun e f => ¬ (e.w = f.w ∧ e.i = f.i)) := by
        have hM' : M.Pairwise (fun e f => ¬ (e.w = f.w ∧ e.i = f.i)) := List.Pairwise.imp (fun {a b} hab => by rw [keyB_iff] at hab; omega) p.bufA.srt
        exact (p.perm.pairwise_iff (fun {a b} h h' => h ⟨h'.1.symm, h'.2.symm⟩)).2 hM'
      rw [List.pairwise_iff_getElem] at hnd
      have := hnd m k (by rw [List.length_map]; omega) (by rw [List.length_map]; omega) hmk
      rw [List.getElem_map, List.getElem_map] at this
      obtain ⟨_, e1⟩ := List.getElem?_eq_some_iff.1 hm'
      obtain ⟨_, e2⟩ := List.getElem?_eq_some_iff.1 hk
      rw [e1, e2] at this
      exact this ⟨h2, h3⟩
  · rw [List.take_add_one, hk, List.map_append]
    exact (ins_perm q.1 Mb).trans ((List.perm_append_comm (l₁ := [q.1]) (l₂ := Mb)).trans (List.Perm.append_right _ hm))
/-- The last ones out. -/
structure OnQ (w wr : World) (ba : Nat) (o' : Nat → Nat) (M : List Ent) : Prop where
  buf : BufIs wr o' 5 ba 16 M
  mv : Mv [5, 6, 7] w (fun _ => 0) wr o'

/-- An index out of any number. -/
theorem rem_idx (t : Int) (n : Nat) (hn : 0 < n) (ht : n ≤ 16) : ∃ k : Nat, ((t.tmod n) + n).tmod n = (k : Int) ∧ k < n ∧ -16 ≤ t.tmod n ∧ t.tmod n ≤ 16 := by
  have h1 := Int.tmod_lt_of_pos t (b := (n : Int)) (by omega)
  have h2 : -(n : Int) < t.tmod n := by
    have := Int.tmod_lt_of_pos (-t) (b := (n : Int)) (by omega)
    rw [Int.neg_tmod] at this
    omega
  have h3 : 0 ≤ t.tmod n + n := by omega
  have h4 := Int.tmod_nonneg (n : Int) h3
  have h5 := Int.tmod_lt_of_pos (t.tmod n + n) (b := (n : Int)) (by omega)
  exact ⟨((t.tmod n + n).tmod n).toNat, by omega, by omega, by omega, by omega⟩
end Go.Proofs.Ytigfklcclfpcjaa
