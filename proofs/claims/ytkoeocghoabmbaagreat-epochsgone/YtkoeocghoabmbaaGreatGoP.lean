/-
  EpochsGone, by numbers alone: invited, an epoch, revoked.
-/
import Derived.Test.YtkoeocghoabmbaaGreatShP
namespace Go.Proofs.YtkoeocghoabmbaaGreat
set_option linter.unusedVariables false
set_option linter.unusedSimpArgs false
set_option synthInstance.maxSize 20000
set_option maxHeartbeats 2000000
set_option maxRecDepth 20000
open Go.RowKit Go.Maps
theorem op_lit {w : World} {o : Nat → Nat} {k who : Int} (hk : I64 k) (hw : I64 who) : OpAt w o ⟨k, who, 0, [], []⟩ (.slice none 0 0) (.slice none 0 0) [] :=
  ⟨⟨rowF_nil _, (fun q hq => by cases hq), (fun q hq => by cases hq), rfl, rd_nil _, by unfold I64; dsimp only; omega, by unfold I64; dsimp only; omega, by unfold U64; dsimp only; omega, by unfold I64; dsimp only; omega⟩, ⟨rowF_nil _, fun h => absurd rfl h⟩, (fun q hq => by cases hq), kp0_nil _ _, hk, hw, by unfold U64; dsimp only; omega, ⟨Nat.zero_le _, Nat.zero_le _⟩⟩
theorem inv_in {A : Nat → Prop} {G : Gd} {n m : Nat} {K : List Int} {O : List (List Int)} (h : Shr A G n m K O) {i : Nat} (hi : i < 4) (hf : findM G.M.l i = none) : inB (doM G ⟨0, i, 0, [], []⟩).M.l i = true := by
  rw [doM_app (.inl rfl)]
  have hc : opC G ⟨0, i, 0, [], []⟩ = ⟨1, i, G.ps i, 0, [], []⟩ := by
    unfold opC
    rw [if_pos rfl]
    dsimp only
    rw [if_pos (by omega), Int.toNat_natCast]
  rw [hc]
  have hr : rightB ⟨1, (i : Int), G.ps i, 0, [], []⟩ = true := by
    unfold rightB
    rw [if_pos rfl]
    have h1 : whoB (i : Int) = true := by unfold whoB; exact decide_eq_true (by omega)
    have h2 : G.ps i ≠ 0 := (at_ok h.ok.ora.good (h.pub i hi)).2.1
    dsimp only
    rw [h1, decide_eq_true h2]
    rfl
  have hk : turnK G.M ⟨1, (i : Int), G.ps i, 0, [], []⟩ = 0 := by
    unfold turnK
    rw [if_pos rfl]
    unfold invK
    dsimp only
    rw [hf]
    rfl
  have ha : applyM G.M ⟨1, (i : Int), G.ps i, 0, [], []⟩ = (⟨insL G.M.l (newM G.M.e ⟨1, (i : Int), G.ps i, 0, [], []⟩), G.M.e⟩, 0) := by
    unfold applyM
    rw [if_pos hr, if_pos hk]
    unfold turnS
    rw [if_pos rfl]
    unfold invL
    dsimp only
    rw [hf]
    rfl
  unfold appG
  rw [ha, if_pos rfl]
  dsimp only
  have hs : Srt (insL G.M.l (newM G.M.e ⟨1, (i : Int), G.ps i, 0, [], []⟩)) := insL_srt h.ok.mok.srt hf
  have h3 := findM_of hs ((insL_mem _ _ _).2 (.inl rfl))
  unfold inB
  have h4 : (newM G.M.e ⟨1, (i : Int), G.ps i, 0, [], []⟩).w = i := rfl
  rw [h4] at h3
  rw [h3]
  rfl
theorem rev_out {A : Nat → Prop} {G : Gd} {n m : Nat} {K : List Int} {O : List (List Int)} (h : Shr A G n m K O) {i : Nat} (hi : i < 4) (h0 : i ≠ 0) (hin : inB G.M.l i = true) (he : G.M.e ≠ -1) : inB (doM G ⟨2, i, 0, [], []⟩).M.l i = false ∧ (doM G ⟨2, i, 0, [], []⟩).M.e = G.M.e := by
  rw [doM_app (.inr rfl)]
  have hc : opC G ⟨2, i, 0, [], []⟩ = ⟨2, i, 0, 0, [], []⟩ := rfl
  rw [hc]
  obtain ⟨y, hf, hy⟩ : ∃ y, findM G.M.l i = some y ∧ on y = true := by
    unfold inB at hin
    cases hf : findM G.M.l i with
    | none => rw [hf] at hin; cases hin
    | some y => rw [hf] at hin; exact ⟨y, rfl, hin⟩
  have hf' : G.M.l.find? (atW i) = some y := hf
  have hr : rightB ⟨2, (i : Int), 0, 0, [], []⟩ = true := by
    unfold rightB
    rw [if_neg (show ¬ (2 : Int) = 1 by decide), if_pos rfl]
    have h1 : whoB (i : Int) = true := by unfold whoB; exact decide_eq_true (by omega)
    have h2 : (i : Int) ≠ 0 := by omega
    dsimp only
    rw [h1, decide_eq_true h2]
    rfl
  have hk : turnK G.M ⟨2, (i : Int), 0, 0, [], []⟩ = 0 := by
    unfold turnK
    rw [if_neg (show ¬ (2 : Int) = 1 by decide), if_pos rfl]
    unfold revK
    dsimp only
    rw [hf']
    dsimp only
    rw [hy]
    rfl
  have ha : applyM G.M ⟨2, (i : Int), 0, 0, [], []⟩ = (⟨setW i (fun m => goneM m G.M.e 0) G.M.l, G.M.e⟩, 0) := by
    unfold applyM
    rw [if_pos hr, if_pos hk]
    unfold turnS
    rw [if_neg (show ¬ (2 : Int) = 1 by decide), if_pos rfl, revL_on (c := ⟨2, (i : Int), 0, 0, [], []⟩) hf hy]
  unfold appG
  rw [ha, if_pos rfl]
  dsimp only
  refine ⟨?_, rfl⟩
  have h3 := setW_find (g := fun m => goneM m G.M.e 0) (fun m => goneM_w m _ _) hf
  unfold inB
  rw [h3]
  show on (goneM y G.M.e 0) = false
  unfold on goneM
  dsimp only
  rw [if_neg he]
  exact decide_eq_false he
theorem doM_epoch {A : Nat → Prop} {G : Gd} {n m : Nat} {K : List Int} {O : List (List Int)} (h : Shr A G n m K O) (hn : n + m + 5 ≤ 80000) (h19 : G.M.e < 19) :
    (doM G ⟨3, 0, 0, [], []⟩).M = ⟨G.M.l, G.M.e + 1⟩ ∧ (∀ i, i < 4 → (doM G ⟨3, 0, 0, [], []⟩).P i = (learnP (opB G).S (G.P i) (opB G).c).1) ∧ (doM G ⟨3, 0, 0, [], []⟩).S = (opB G).S ∧ (doM G ⟨3, 0, 0, [], []⟩).last = (opB G).key ∧ (doM G ⟨3, 0, 0, [], []⟩).ps = G.ps ∧ (doM G ⟨3, 0, 0, [], []⟩).ss = G.ss := by
  obtain ⟨a1, a2, a3⟩ := h.apply hn
  have hb := h.begin hn
  have hk : (opB G).k = 0 := hb.k
  rw [if_neg (by omega)] at a3
  have hck : (opB G).c.k = 3 := by rw [a2]
  have hd : doM G ⟨3, 0, 0, [], []⟩ = lrnK { begG G with last := (opB G).key, M := ⟨G.M.l, G.M.e + 1⟩, K := ⟨G.M.l, G.M.e + 1⟩ } (opB G).c 4 := by
    unfold Proofs.YtkoeocghoabmbaaGreat.doM
    rw [if_pos rfl, if_pos hk]
    unfold doA
    have e1 : applyM ({ begG G with last := (opB G).key } : Gd).M (opB G).c = (⟨G.M.l, G.M.e + 1⟩, 0) := a3
    rw [e1, if_neg (fun e => by
      rcases e with e | e
      · exact e hck
      · exact e.1 rfl)]
    unfold appG
    rw [e1, if_pos rfl]
  rw [hd]
  refine ⟨rfl, fun i hi => ?_, rfl, rfl, rfl, rfl⟩
  show (if i < 4 then _ else _ : Rg) = _
  rw [if_pos hi]
  rfl
theorem shr_epochDo {A : Nat → Prop} {G : Gd} {n m : Nat} {K : List Int} {O : List (List Int)} (h : Shr A G n m K O) (hn : n + m + 5 ≤ 80000) (h19 : G.M.e < 19) : Shr A (doM G ⟨3, 0, 0, [], []⟩) (n + m + 3) m (K ++ [G.S.fresh]) (O ++ [(opB G).o]) := by
  obtain ⟨e1, e2, e3, e4, e5, e6⟩ := doM_epoch h hn h19
  exact (h.epoch hn h19).congr e3 e1 (fun i hi _ => by rw [e2 i hi]; show _ = (if i < 4 then _ else _ : Rg); rw [if_pos hi]) e5 e6 e4
structure Gon (G : Gd) (n m : Nat) (K : List Int) (O : List (List Int)) (i : Nat) (key : Int) : Prop where
  shr : Shr (· = i) G n m K O
  out : inB G.M.l i = false
  ring : Knows K O (G.P i) 1
  key : K.getD 0 0 = key
theorem gone_start {ds : List Int} (h : ∀ d ∈ ds, U64 d) (ob rr : Nat) (rb mb : Nat → Nat) {i : Nat} (hi : i < 4) (h0 : i ≠ 0) {G1 G2 G3 : Gd} (e1 : G1 = doM (gd0 ⟨ds, []⟩ ob rr rb mb) ⟨0, i, 0, [], []⟩) (e2 : G2 = doM G1 ⟨3, 0, 0, [], []⟩) (e3 : G3 = doM G2 ⟨2, i, 0, [], []⟩) :
    Inv G1 1000 2 ∧ Inv G2 2000 3 ∧ Inv G3 3000 4 ∧ keyM (G2.P i).ks 0 = (G1.S.fresh, 0) ∧ ∃ o, Gon G3 3000 4 [G1.S.fresh] [o] i G1.S.fresh := by
  have s0 := gd0_shr h (fun _ => True) ob rr rb mb
  have i0 := gd0_inv h ob rr rb mb
  have hz : U64 0 := by unfold U64; omega
  have hw : I64 (i : Int) := by unfold I64; omega
  have hw0 : I64 (0 : Int) := by unfold I64; omega
  have i1 : Inv G1 1000 2 := by rw [e1]; exact invLe (i0.doM (by omega) hz hw) (by omega) (by omega)
  have i2 : Inv G2 2000 3 := by rw [e2]; exact invLe (i1.doM (by omega) hz hw0) (by omega) (by omega)
  have i3 : Inv G3 3000 4 := by rw [e3]; exact invLe (i2.doM (by omega) hz hw) (by omega) (by omega)
  have s1 : Shr (fun _ => True) G1 1000 2 [] [] := by rw [e1]; exact (s0.doM hz hw (.inl ⟨rfl, by dsimp only; omega, by dsimp only; omega⟩)).le (by omega) (by omega)
  have hf : findM (gd0 ⟨ds, []⟩ ob rr rb mb).M.l i = none := by
    show findM [_] _ = none
    rw [findM_cons, if_neg (by dsimp only; omega), findM_nil]
  have n1 : inB G1.M.l i = true := by rw [e1]; exact inv_in s0 hi hf
  have ep := s1.ep
  have ep1 : G1.M.e = -1 := by simp at ep; omega
  have s2 : Shr (fun _ => True) G2 2000 3 [G1.S.fresh] [(opB G1).o] := by rw [e2]; exact (shr_epochDo s1 (by omega) (by omega)).le (by omega) (by omega)
  obtain ⟨f1, f2, f3, f4, f5, f6⟩ := doM_epoch s1 (by omega) (by omega)
  rw [← e2] at f1 f2 f3
  have n2 : inB G2.M.l i = true := by rw [f1]; exact n1
  have ep2 : G2.M.e = 0 := by rw [f1, ep1]; rfl
  obtain ⟨_, ⟨j, k1, k2, _⟩, _⟩ := s1.learn (by omega) (by omega) hi trivial
  have hj : j = 1 := k2 n1
  rw [hj, ← f2 i hi] at k1
  have k1' : Knows [G1.S.fresh] [(opB G1).o] (G2.P i) 1 := k1
  have g2 : Good G2.S := s2.ok.ora.good
  obtain ⟨r1, r2⟩ := rev_out s2 hi h0 n2 (by omega)
  have s3 : Shr (fun _ => True) G3 3000 4 [G1.S.fresh] [(opB G1).o] := by rw [e3]; exact (s2.doM hz hw (.inr rfl)).le (by omega) (by omega)
  have p3 : G3.P i = G2.P i := by
    rw [e3, doM_app (.inr rfl)]
    unfold appG
    split <;> rfl
  refine ⟨i1, i2, i3, k1'.yes (i := 0) s2.hist g2 (by omega), (opB G1).o, s3.mono (fun _ _ => trivial), by rw [e3]; exact r1, by rw [p3]; exact k1', rfl⟩
def gonG (G : Gd) (i : Nat) : Gd := { G with S := (opB G).S, last := (opB G).key, M := ⟨G.M.l, G.M.e + 1⟩, P := upd4 G.P i (learnP (opB G).S (G.P i) (opB G).c).1 }
theorem Gon.step {G : Gd} {n m : Nat} {K : List Int} {O : List (List Int)} {i : Nat} {key : Int} (h : Gon G n m K O i key) (hi : i < 4) (hn : n + m + 5 ≤ 80000) (h19 : G.M.e < 19) (hK : 0 < K.length) :
    (opB G).k = 0 ∧ (opB G).key ≠ key ∧ applyM G.M (opB G).c = (⟨G.M.l, G.M.e + 1⟩, 0) ∧ (learnP (opB G).S (G.P i) (opB G).c).2 = 11 ∧ (opB G).c.ws = (opB G).ws ∧ (∀ x ∈ (opB G).ws, (opB G).S.unwrap (G.ss i) x.b = (0, 11)) ∧ keyM (learnP (opB G).S (G.P i) (opB G).c).1.ks K.length = (0, 11) ∧ Gon (gonG G i) (n + m + 3) m (K ++ [G.S.fresh]) (O ++ [(opB G).o]) i key := by
  have hb := h.shr.begin hn
  obtain ⟨a1, a2, a3⟩ := h.shr.apply hn
  rw [if_neg (by omega)] at a3
  have hkey : (opB G).key = G.S.fresh := hb.key
  obtain ⟨l1, _, l3⟩ := h.shr.learn hn h19 hi rfl
  rw [h.out, if_neg (by simp)] at l1
  have hck : (opB G).c.k = 3 := by rw [a2]
  have ho : (opB G).c.o = (opB G).o := by rw [a2]
  have hws : (opB G).c.ws = (opB G).ws := by rw [a2]
  have hep := h.shr.ep
  obtain ⟨w1, w2⟩ := h.shr.who i hi rfl
  have hu : unwM (opB G).S (G.P i).w (G.P i).s (opB G).c.ws = (0, 11) := by
    rw [hws, w1]
    exact unw_out hb (fun e => by
      have := h.out
      rw [(inB_iff h.shr.ok.mok.srt).2 e] at this
      cases this) _
  have hl := learn_out (S := (opB G).S) (c := (opB G).c) G.S.fresh h.ring h.shr.hist.len ⟨a1, hck⟩ (by omega) hu
  rw [ho] at hl
  have hkn := hl.2.1
  have hs := h.shr.epoch hn h19
  refine ⟨hb.k, by rw [hkey, ← h.key]; exact h.shr.fresh (by omega) hK, a3, l1, hws, h.shr.shut hn hi h.out, hkn.not hK (by simp), hs.congr rfl rfl (fun j hj hA => ?_) rfl rfl rfl, h.out, ?_, ?_⟩
  · subst hA
    show upd4 G.P j _ j = (if j < 4 then _ else _ : Rg)
    rw [upd4_at, if_pos hj]
  · show Knows _ _ (upd4 G.P i _ i) 1
    rw [upd4_at]
    exact hkn
  · rw [getD_snocL, if_pos hK]
    exact h.key
end Go.Proofs.YtkoeocghoabmbaaGreat
