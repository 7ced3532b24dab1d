/-
  EpochsShared: what an epoch's round asks of numbers, and the law's own list of keys.
-/
import Derived.Test.YtkoeocghoabmbaaGreatShP
import Derived.Test.YtkoeocghoabmbaaGreatLgs
namespace Go.Proofs.YtkoeocghoabmbaaGreat
set_option linter.unusedVariables false
set_option linter.unusedSimpArgs false
set_option synthInstance.maxSize 20000
set_option maxHeartbeats 2000000
set_option maxRecDepth 20000
open Go.RowKit Go.Maps

theorem appG_km {G : Gd} (h : G.K = G.M) (c : Cg) : (appG G c).K = (appG G c).M := by
  unfold appG
  split
  · rfl
  · exact h
theorem doM_km {G : Gd} (h : G.K = G.M) {x : Ope} (hk : x.k = 0 ∨ x.k = 2) : (doM G x).K = (doM G x).M := by
  rw [doM_app hk]
  exact appG_km h _
structure Rnd (G : Gd) (K : List Int) (i : Nat) (b : Bool) : Prop where
  le : (learnP (opB G).S (G.P i) (opB G).c).2 = if b = true then 0 else 11
  now : keyM (learnP (opB G).S (G.P i) (opB G).c).1.ks (G.M.e + 1) = if b = true then ((opB G).key, 0) else (0, 11)
  all : b = true → ∀ h : Nat, h < K.length + 1 → keyM (learnP (opB G).S (G.P i) (opB G).c).1.ks h = ((K ++ [(opB G).key]).getD h 0, 0)
section
variable {A : Nat → Prop} {G : Gd} {n m : Nat} {K : List Int} {O : List (List Int)}
theorem Shr.rnd (h : Shr A G n m K O) (hn : n + m + 5 ≤ 80000) (h19 : G.M.e < 19) {i : Nat} (hi : i < 4) (hA : A i) : Rnd G K i (inB G.M.l i) := by
  obtain ⟨l1, ⟨j, l2, l3, l4⟩, _⟩ := h.learn hn h19 hi hA
  have hb := h.begin hn
  have hkey : (opB G).key = G.S.fresh := hb.key
  have hH := h.hist.next hb h.ep h.last
  have hora := begin_ora h.ok.ora G.M.l G.M.e G.last (by have := h.ok.len; omega)
  refine ⟨l1, ?_, fun hin k hk => ?_⟩
  · have e : G.M.e + 1 = ((K.length : Nat) : Int) := h.ep
    rw [e]
    cases hin : inB G.M.l i with
    | true =>
      have h1 := l2.yes hH hora.good (i := K.length) (by rw [l3 hin]; omega)
      rw [h1, getD_snocL, if_neg (by omega), if_pos rfl, if_pos rfl, hkey]
    | false =>
      have h1 := l2.not (l4 hin) (i := K.length) (by simp)
      rw [h1, if_neg (by simp)]
  · rw [hkey]
    exact l2.yes hH hora.good (by rw [l3 hin]; exact hk)
theorem Shr.find_in (h : Shr A G n m K O) {i : Int} (hin : inB G.M.l i = true) : ∃ m, findM G.M.l i = some m ∧ m.t = -1 ∧ m.f ≤ G.M.e + 1 := by
  unfold inB at hin
  cases hf : findM G.M.l i with
  | none => rw [hf] at hin; cases hin
  | some m =>
    rw [hf] at hin
    exact ⟨m, rfl, of_decide_eq_true hin, h.fr m (findM_some hf).1⟩
theorem find_out {l : List Mb} {i : Int} (hin : inB l i = false) : findM l i = none ∨ ∃ m, findM l i = some m ∧ m.t ≠ -1 := by
  unfold inB at hin
  cases hf : findM l i with
  | none => exact .inl rfl
  | some m =>
    rw [hf] at hin
    exact .inr ⟨m, rfl, of_decide_eq_false hin⟩
theorem epG_zero (G : Gd) : ({ { { { G with S := (opB G).S } with last := (opB G).key } with M := ⟨G.M.l, G.M.e + 1⟩ } with K := ⟨G.M.l, G.M.e + 1⟩ } : Gd) = epG G 0 := by
  unfold epG
  simp
theorem epG_succ (G : Gd) (j : Nat) : ({ epG G j with P := upd4 (epG G j).P j (learnP (opB G).S (G.P j) (opB G).c).1 } : Gd) = epG G (j + 1) := by
  have h1 := step_fun (fun n => (learnP (opB G).S (G.P n) (opB G).c).1) G.P j
  unfold epG
  dsimp only at h1 ⊢
  rw [h1]
theorem epG_P (G : Gd) (j : Nat) : (epG G j).P j = G.P j := by unfold epG; simp
theorem epG_P' (G : Gd) (j : Nat) : (epG G (j + 1)).P j = (learnP (opB G).S (G.P j) (opB G).c).1 := by unfold epG; simp
end
structure KAt (w : World) (o : Nat → Nat) (kv : Value) (K : List Int) : Prop where
  row : w.ownsRow 0 29 1 kv K.length (flat uc K)
  own : ∀ k, kv.ownBlock = some k → o k = 24
theorem kAt_nil (w : World) (o : Nat → Nat) : KAt w o (.slice none 0 0) [] := ⟨World.ownsRow_nil _ _ _ _, fun j hj => by cases hj⟩
section
variable {I : List Nat} {w w' : World} {o o' : Nat → Nat} {kv : Value} {K : List Int}
theorem KAt.mv (h : KAt w o kv K) (m : Mv I w o w' o') (hI : 24 ∉ I) : KAt w' o' kv K :=
  ⟨ownsRow_block h.row (fun k hk => m.block k (h.row.lt k hk).2 (by rw [h.own k hk]; exact hI)), fun k hk => by rw [m.ext k (h.row.lt k hk).2]; exact h.own k hk⟩
theorem KAt.add (h : KAt w o kv K) {x : Int} {ob : Obj} {w5 : World} {v' : Value} (hrow : w5.ownsRow 0 29 1 v' (K ++ [x]).length (flat uc (K ++ [x]))) (hg : (w.alloc ob).grownBy w5 kv.ownBlock) (hwh : ∀ k, v'.ownBlock = some k → kv.ownBlock = some k ∨ (w.alloc ob).heap.size ≤ k) :
    ∃ o', KAt w5 o' v' (K ++ [x]) ∧ Mv [24] w o w5 o' := by
  have m4 : Mv [] w o (w.alloc ob) (newTo o w 0) := Mv.of_below 0 (balloc (Below.refl _ _) _)
  have h4 := h.mv m4 (by simp)
  generalize newTo o w 0 = o4 at *
  generalize w.alloc ob = w4 at *
  have m5 : Mv [24] w4 o4 w5 (newTo o4 w4 24) := Mv.of_turn 24 (turn_grown hg) (fun k hk _ => by
    have hk' : kv.ownBlock = some k := by simpa using hk
    rw [h4.own k hk']; simp)
  refine ⟨_, ⟨hrow, fun k hk => ?_⟩, (m4.widen (by simp)).trans m5⟩
  rcases hwh k hk with e | e
  · rw [newTo_old (h4.row.lt k e).2]; exact h4.own k e
  · exact newTo_new e
theorem KAt.slice (h : KAt w o kv K) : ∃ a cap, kv = .slice a K.length cap ∧ K.length ≤ cap ∧ cap ≤ 9223372036854775807 := slice_of_own h.row
theorem KAt.cells (h : KAt w o kv K) (hp : 0 < K.length) : ∃ g cap, kv = .slice (some ⟨g, 0, none⟩) K.length cap ∧ K.length ≤ cap ∧ cap ≤ 9223372036854775807 ∧ ∀ i, i < K.length → w.cell? ⟨g, i, none⟩ = some (.int .u64 (K.getD i 0)) := by
  obtain ⟨g, cap, e, h1, h2⟩ := own_some h.row hp
  refine ⟨g, cap, e, h1, h2, fun i hi => ?_⟩
  have hr := h.row
  rw [e] at hr
  have := row_range uc_len hr (x := K.getD i 0) (by rw [List.getD_eq_getElem?_getD, List.getElem?_eq_getElem hi]; rfl) 0 _ rfl
  simpa using this
end
structure SV (w : World) (o : Nat → Nat) (tb : Nat) (v : Value) (e : Int) : Prop where
  blk : Blk w tb 45 [v, .int .i64 e]
  own : o tb = 0
theorem SV.mv {I : List Nat} {w w' : World} {o o' : Nat → Nat} {tb : Nat} {v : Value} {e : Int} (h : SV w o tb v e) (m : Mv I w o w' o') (hI : 0 ∉ I) : SV w' o' tb v e :=
  ⟨h.blk.block (m.block tb h.blk.lt (by rw [h.own]; exact hI)), by rw [m.ext tb h.blk.lt]; exact h.own⟩
end Go.Proofs.YtkoeocghoabmbaaGreat
