/-
  The law's room, by numbers: an epoch more.
-/
import Derived.Test.YtjbpfhnagiacmaaGreatEpF
namespace Go.Proofs.YtjbpfhnagiacmaaGreat
set_option linter.unusedVariables false
set_option linter.unusedSimpArgs false
set_option synthInstance.maxSize 20000
set_option maxHeartbeats 2000000
set_option maxRecDepth 20000
open Go.RowKit Go.Maps
structure Rn where
  S : St
  M : Sm
  A : Rg
  X : Rg
  B : Rg
  last : Int
def rnB (R : Rn) : Bg := beginM R.S R.M.l R.M.e R.last
def rnN (R : Rn) : Rn := ⟨(rnB R).S, ⟨R.M.l, R.M.e + 1⟩, (learnP (rnB R).S R.A (rnB R).c).1, (learnP (rnB R).S R.X (rnB R).c).1, (learnR (rnB R).S R.B (rnB R).c).1, (rnB R).key⟩
def rn0 (S : St) : Rn := ⟨S.pair.pair, ⟨[⟨0, (S.put .secret).fresh, 0, -1, 0⟩], -1⟩, ⟨0, S.fresh, [], []⟩, ⟨1, S.pair.fresh, [], []⟩, ⟨0, S.fresh, [], []⟩, 0⟩
def rnK (S : St) : Nat → Rn
  | 0 => rn0 S
  | k + 1 => rnN (rnK S k)
structure RI (R : Rn) (k : Nat) (p s : Int) (K : List Int) (O : List (List Int)) : Prop where
  ora : Ora R.S (4 + 4 * k)
  m : R.M = ⟨[⟨0, p, 0, -1, 0⟩], (k : Int) - 1⟩
  pu : U64 p
  pub : R.S.at p = some (.pub s)
  kl : K.length = k
  lu : U64 R.last
  last : K ≠ [] → R.last = K.getD (K.length - 1) 0
  hist : Hist R.S K O
  a : Knows K O R.A k
  aw : R.A.w = 0 ∧ R.A.s = s
  x : Knows K O R.X 0
  xw : R.X.w = 1
  rel : RRel R.A R.B
theorem nowM_one (p : Int) : nowM [⟨0, p, 0, -1, 0⟩] = [⟨0, p, 0, -1, 0⟩] := rfl
theorem RI.mok {R : Rn} {k : Nat} {p s : Int} {K : List Int} {O : List (List Int)} (h : RI R k p s K O) (hk : k ≤ 20) : MOk R.M := by
  rw [h.m]
  exact ⟨by unfold EOk; dsimp only; omega, by unfold Srt; simp⟩
theorem RI.begin {R : Rn} {k : Nat} {p s : Int} {K : List Int} {O : List (List Int)} (h : RI R k p s K O) (hk : k ≤ 20) : BgOk R.S R.M.l R.M.e R.last (fun _ => s) := by
  refine begin_ok h.ora (by rw [h.m]; simp; omega) (by rw [h.m, nowM_one]; simp) (fun m hm => ?_)
  rw [h.m] at hm
  simp at hm
  subst hm
  exact h.pub
theorem RI.app {R : Rn} {k : Nat} {p s : Int} {K : List Int} {O : List (List Int)} (h : RI R k p s K O) (hk : k < 20) : rightB (rnB R).c = true ∧ (rnB R).c = ⟨3, 0, 0, 0, (rnB R).ws, (rnB R).o⟩ ∧ applyM R.M (rnB R).c = (⟨R.M.l, R.M.e + 1⟩, 0) := by
  obtain ⟨h1, h2, h3⟩ := apply_begin (h.begin (by omega)) (h.mok (by omega)) (by rw [h.m, nowM_one]; simp) (fun x hx => by
    rw [h.m] at hx
    simp at hx
    subst hx
    dsimp only
    omega)
  rw [if_neg (by rw [h.m]; dsimp only; omega)] at h3
  exact ⟨h1, h2, h3⟩
theorem RI.next {R : Rn} {k : Nat} {p s : Int} {K : List Int} {O : List (List Int)} (h : RI R k p s K O) (hk : k < 20) : RI (rnN R) (k + 1) p s (K ++ [R.S.fresh]) (O ++ [(rnB R).o]) := by
  have hb := h.begin (by omega)
  obtain ⟨a1, a2, a3⟩ := h.app hk
  have hl : R.M.l.length = 1 := by rw [h.m]; rfl
  have hora := begin_ora h.ora R.M.l R.M.e R.last (by omega)
  have hH : Hist (rnB R).S (K ++ [R.S.fresh]) (O ++ [(rnB R).o]) := h.hist.next hb (by rw [h.m, h.kl]; dsimp only; omega) h.last
  have ho : (rnB R).c.o = (rnB R).o := by rw [a2]
  have hws : (rnB R).c.ws = (rnB R).ws := by rw [a2]
  have hck : (rnB R).c.k = 3 := by rw [a2]
  have hnw : (nowM R.M.l).map (·.w) = [0] := by rw [h.m, nowM_one]; rfl
  have hua : unwM (rnB R).S R.A.w R.A.s (rnB R).c.ws = (R.S.fresh, 0) := by
    rw [hws, h.aw.1, h.aw.2]
    exact unw_in hb (n := 0) (by rw [hnw]; simp)
  have hux : unwM (rnB R).S R.X.w R.X.s (rnB R).c.ws = (0, 11) := by
    rw [hws, h.xw]
    exact unw_out hb (n := 1) (by rw [hnw]; simp) _
  have hla := learn_in (S := (rnB R).S) (x := R.S.fresh) h.a (by rw [ho]; exact hH) h.hist.len hora.good ⟨a1, hck⟩ (by rw [h.kl]; omega) hua
  have hlx := learn_out (S := (rnB R).S) (c := (rnB R).c) R.S.fresh h.x h.hist.len ⟨a1, hck⟩ (by rw [h.kl]; omega) hux
  rw [ho] at hla hlx
  refine ⟨?_, ?_, h.pu, hb.keep _ _ h.pub, by simp [h.kl], ?_, fun _ => ?_, hH, ?_, ⟨?_, ?_⟩, hlx.2.1, ?_, (learn_rel h.rel (rnB R).c).2⟩
  · exact hora.le (by omega)
  · show (⟨R.M.l, R.M.e + 1⟩ : Sm) = _
    rw [h.m]
    simp
  · exact begin_key h.ora _ _ _ (by omega)
  · show (rnB R).key = _
    rw [show (rnB R).key = R.S.fresh from hb.key, getD_snocL]
    simp
  · have := hla.2.1
    rw [h.kl] at this
    exact this
  · show (learnP (rnB R).S R.A (rnB R).c).1.w = 0
    rw [hla.2.2.1]; exact h.aw.1
  · show (learnP (rnB R).S R.A (rnB R).c).1.s = s
    rw [hla.2.2.2]; exact h.aw.2
  · show (learnP (rnB R).S R.X (rnB R).c).1.w = 1
    rw [hlx.2.2.1]; exact h.xw
theorem ora00 {ds : List Int} (h : ∀ d ∈ ds, U64 d) : Ora ⟨ds, []⟩ 0 := ⟨good0 h, ⟨fun _ _ _ e => (by cases e), fun _ _ _ _ e => (by cases e)⟩, fun _ _ _ _ e => (by cases e), Nat.le_refl _⟩
theorem rn0_ok {S : St} (h : Ora S 0) : RI (rn0 S) 0 (S.put .secret).fresh S.fresh [] [] := by
  have h1 := h.pair (by omega)
  have h2 := h1.pair (by omega)
  have hs := h.put (x := .secret) (by omega) trivial (fun _ _ e => by cases e) (fun _ _ _ e => by cases e) (fun _ _ _ e => by cases e)
  have e1 : S.pair.at (S.put .secret).fresh = some (.pub S.fresh) := at_put_new hs.good (by have := hs.len; omega) _
  have h3 := h1.put (x := .secret) (by omega) trivial (fun _ _ e => by cases e) (fun _ _ _ e => by cases e) (fun _ _ _ e => by cases e)
  have e2 : S.pair.pair.at (S.put .secret).fresh = some (.pub S.fresh) := at_put_old h3.good (by have := h3.len; omega) (at_put_old h1.good (by have := h1.len; omega) e1)
  exact ⟨h2, rfl, (at_ok h1.good e1).1, e2, rfl, by unfold U64 rn0; dsimp only; omega, fun e => absurd rfl e, ⟨rfl, fun i hi => absurd hi (Nat.not_lt_zero i), fun i hi => absurd hi (Nat.not_lt_zero _)⟩, ⟨Nat.le_refl _, rfl, rfl, fun i hi => absurd hi (Nat.not_lt_zero i), fun _ _ => rfl, fun _ _ => rfl⟩, ⟨rfl, rfl⟩, ⟨Nat.le_refl _, rfl, rfl, fun i hi => absurd hi (Nat.not_lt_zero i), fun _ _ => rfl, fun _ _ => rfl⟩, rfl, ⟨rfl, rfl, rfl, rfl, rfl, 0, Nat.le_refl _, fun _ _ => rfl, fun e => absurd e (Nat.lt_irrefl 0)⟩⟩
theorem rnK_ok {S : St} (h : Ora S 0) : ∀ k, k ≤ 20 → ∃ K O, RI (rnK S k) k (S.put .secret).fresh S.fresh K O
  | 0, _ => ⟨[], [], rn0_ok h⟩
  | k + 1, hk => by
    obtain ⟨K, O, hr⟩ := rnK_ok h k (by omega)
    exact ⟨_, _, hr.next (by omega)⟩
end Go.Proofs.YtjbpfhnagiacmaaGreat
