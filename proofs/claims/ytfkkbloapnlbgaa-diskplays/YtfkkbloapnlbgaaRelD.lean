/-
  The program's disk and the document's, held against each other, as lists alone.
-/
import Derived.Test.YtfkkbloapnlbgaaStep
namespace Go.Proofs.Ytfkkbloapnlbgaa
set_option linter.unusedVariables false
set_option linter.unusedSimpArgs false

def secR (q : RW) : Sec := if q.t then ts else mkS q.b
def putS (g : List Sec) (q : RW) : List Sec := g.set q.i (secR q)
def secs (N : Nat) (ws : List RW) : List Sec := ws.foldl putS (List.replicate N zs)
theorem putS_len (ws : List RW) : ∀ g : List Sec, (ws.foldl putS g).length = g.length := by
  induction ws with
  | nil => exact fun g => rfl
  | cons q r ih =>
    intro g
    rw [List.foldl_cons, ih]
    exact List.length_set
theorem secs_len (N : Nat) (ws : List RW) : (secs N ws).length = N := by
  unfold secs
  rw [putS_len, List.length_replicate]
theorem secs_append (N : Nat) (a b : List RW) : secs N (a ++ b) = b.foldl putS (secs N a) := by
  unfold secs
  rw [List.foldl_append]
def valR : Option RW → Sec
  | none => zs
  | some q => secR q
theorem putS_at {i : Nat} : ∀ (L : List RW) (g : List Sec) (acc : Option RW), i < g.length → g[i]? = some (valR acc) → (L.foldl putS g)[i]? = some (valR (L.foldl (fun acc q => if q.i = i then some q else acc) acc)) := by
  intro L
  induction L with
  | nil => exact fun g acc _ h => h
  | cons q r ih =>
    intro g acc hi h
    rw [List.foldl_cons, List.foldl_cons]
    refine ih _ _ (by unfold putS; rw [List.length_set]; exact hi) ?_
    unfold putS
    rw [List.getElem?_set]
    by_cases e : q.i = i
    · rw [if_pos e, if_pos e, if_pos (by rw [e]; exact hi)]
      rfl
    · rw [if_neg e, if_neg e]
      exact h
theorem secs_at (N : Nat) (L : List RW) {i : Nat} (hi : i < N) : (secs N L)[i]? = some (valR (lastAt L i)) := by
  refine putS_at L _ none (by rw [List.length_replicate]; exact hi) ?_
  rw [List.getElem?_replicate, if_pos hi]
  rfl

def toW (mid : Bool) (n : Nat) : Nat → List RW → List Wr
  | _, [] => []
  | k, q :: r => (q.i, if tornAt mid n k then ts else mkS q.b) :: toW mid n (k + 1) r
theorem toW_false (n : Nat) : ∀ (l : List RW) (k : Nat), toW false n k l = l.map (fun q => (q.i, mkS q.b))
  | [], k => rfl
  | q :: r, k => by
    show (q.i, if tornAt false n k then ts else mkS q.b) :: toW false n (k + 1) r = _
    rw [toW_false n r (k + 1)]
    rfl
theorem toW_len (mid : Bool) (n : Nat) : ∀ (l : List RW) (k : Nat), (toW mid n k l).length = l.length
  | [], k => rfl
  | q :: r, k => by
    show (_ :: toW mid n (k + 1) r).length = _
    rw [List.length_cons, toW_len mid n r (k + 1), List.length_cons]
theorem toW_last (n : Nat) (q : RW) : ∀ (l : List RW) (k : Nat), k + l.length + 1 = n → toW true n k (l ++ [q]) = l.map (fun q => (q.i, mkS q.b)) ++ [(q.i, ts)]
  | [], k, h => by
    show [(q.i, if tornAt true n k then ts else mkS q.b)] = _
    have : tornAt true n k = true := by unfold tornAt; simp at h ⊢; exact h
    rw [this]
    rfl
  | x :: r, k, h => by
    rw [List.length_cons] at h
    show (x.i, if tornAt true n k then ts else mkS x.b) :: toW true n (k + 1) (r ++ [q]) = _
    have : tornAt true n k = false := by unfold tornAt; simp; omega
    rw [this, toW_last n q r (k + 1) (by omega)]
    rfl
theorem settle_kept' (keep : Nat → Bool) (mid : Bool) (n : Nat) : ∀ (l : List RW) (k : Nat) (g : List Sec), settle keep k (toW mid n k l) g = (kept keep mid n k l).foldl putS g
  | [], k, g => rfl
  | q :: r, k, g => by
    show settle keep (k + 1) (toW mid n (k + 1) r) (if keep k then g.set q.i (if tornAt mid n k then ts else mkS q.b) else g) = ((if keep k then [(⟨q.i, q.b, tornAt mid n k⟩ : RW)] else []) ++ kept keep mid n (k + 1) r).foldl putS g
    rw [settle_kept' keep mid n r (k + 1), List.foldl_append]
    congr 1
    cases keep k <;> rfl
theorem kept_all (n : Nat) : ∀ (l : List RW) (k : Nat), (∀ q ∈ l, q.t = false) → kept (fun _ => true) false n k l = l
  | [], k, _ => rfl
  | q :: r, k, h => by
    show [(⟨q.i, q.b, false⟩ : RW)] ++ kept (fun _ => true) false n (k + 1) r = _
    rw [kept_all n r (k + 1) (fun q' hq' => h q' (List.mem_cons_of_mem _ hq'))]
    have := h q (List.mem_cons_self ..)
    obtain ⟨i, b, t⟩ := q
    dsimp only at this
    subst this
    rfl

structure Fine (N : Nat) (q : RW) : Prop where
  i : q.i < N
  len : q.b.length = 64
  oct : Oct q.b
theorem kept_fine {N : Nat} (keep : Nat → Bool) (mid : Bool) (n : Nat) : ∀ (l : List RW) (k : Nat), (∀ q ∈ l, Fine N q) → ∀ q ∈ kept keep mid n k l, Fine N q
  | [], k, _, q, hq => by cases hq
  | x :: r, k, h, q, hq => by
    have hx := h x (List.mem_cons_self ..)
    rcases List.mem_append.1 (show q ∈ (if keep k then [(⟨x.i, x.b, tornAt mid n k⟩ : RW)] else []) ++ kept keep mid n (k + 1) r from hq) with hq | hq
    · cases hk : keep k
      · rw [hk] at hq; simp at hq
      · rw [hk] at hq
        simp at hq
        subst hq
        exact ⟨hx.i, hx.len, hx.oct⟩
    · exact kept_fine keep mid n r (k + 1) (fun q' hq' => h q' (List.mem_cons_of_mem _ hq')) q hq

structure Rel (D : Dk) (R : Rk) : Prop where
  n : R.n = (D.now.length : Int)
  dn : R.down = D.down
  mid : R.midst = D.down
  cnt : R.count = D.writes
  arm : R.armed = if D.armed then D.left else -1
  pend : D.pend = toW D.down R.pend.length 0 R.pend
  good : D.good = secs D.now.length R.good
  now : D.down = false → D.now = secs D.now.length (R.good ++ R.pend)
  gf : ∀ q ∈ R.good, Fine D.now.length q
  pf : ∀ q ∈ R.pend, Fine D.now.length q
  pt : ∀ q ∈ R.pend, q.t = false

theorem rel_new (n : Nat) : Rel (newD n) (newR n) := by
  have e : (newD n).now.length = n := by simp [newD]
  refine ⟨by rw [e]; rfl, rfl, rfl, rfl, rfl, rfl, ?_, fun _ => ?_, (fun q hq => by cases hq), (fun q hq => by cases hq), (fun q hq => by cases hq)⟩
  · rw [e]; rfl
  · rw [e]; rfl
section
variable {D : Dk} {R : Rk} {N : Nat}
theorem Rel.reach (h : Rel D R) (i : Int) : D.reach i = R.reach i := by
  unfold Dk.reach Rk.reach
  rw [h.dn, h.n]
theorem Rel.plen (h : Rel D R) : D.pend.length = R.pend.length := by rw [h.pend, toW_len]
theorem Rel.write (h : Rel D R) (hok : DOk D N) (i : Int) (l : List Int) (hl : Oct l) : (D.write i l).1 = (R.write i l).1 ∧ Rel (D.write i l).2 (R.write i l).2 := by
  have hr := h.reach i
  have hl0 := hok.l0
  by_cases h0 : D.reach i = 0
  · have h0' : R.reach i = 0 := by rw [← hr]; exact h0
    obtain ⟨hd, hi0, hi1⟩ := reach_zero h0
    by_cases h64 : l.length = 64
    · have hp : D.pend = R.pend.map (fun q => (q.i, mkS q.b)) := by
        have := h.pend
        rw [hd, toW_false] at this
        exact this
      have hf : Fine D.now.length ⟨i.toNat, l, false⟩ := ⟨by show i.toNat < _; omega, h64, hl⟩
      have hpf : ∀ q ∈ R.pend ++ [⟨i.toNat, l, false⟩], Fine D.now.length q := fun q hq => by
        rcases List.mem_append.1 hq with hq | hq
        · exact h.pf q hq
        · simp at hq; subst hq; exact hf
      have hpt : ∀ q ∈ R.pend ++ [⟨i.toNat, l, false⟩], q.t = false := fun q hq => by
        rcases List.mem_append.1 hq with hq | hq
        · exact h.pt q hq
        · simp at hq; subst hq; rfl
      have ha := h.arm
      by_cases hc : D.armed = true ∧ D.left = 0
      · have hz : R.armed = 0 := by rw [ha, if_pos hc.1]; exact hc.2
        have eD : D.write i l = (19, D.fall i.toNat) := by unfold Dk.write; rw [if_neg (by simp [h0]), if_neg (by simp [h64]), if_pos hc]
        have eR : R.write i l = (19, R.fall i.toNat l) := by unfold Rk.write; rw [if_neg (by simp [h0']), if_neg (by simp [h64]), if_pos hz]
        rw [eD, eR]
        refine ⟨rfl, ?_⟩
        show Rel (D.fall i.toNat) (R.fall i.toNat l)
        refine ⟨h.n, rfl, rfl, h.cnt, h.arm, ?_, h.good, (fun e => by cases e), h.gf, hpf, hpt⟩
        show D.pend ++ [(i.toNat, ts)] = toW true (R.pend ++ [(⟨i.toNat, l, false⟩ : RW)]).length 0 (R.pend ++ [(⟨i.toNat, l, false⟩ : RW)])
        rw [toW_last _ _ _ _ (by simp), hp]
      · have hz : R.armed ≠ 0 := by
          rw [ha]
          cases hb : D.armed
          · simp
          · rw [if_pos rfl]
            exact fun e => hc ⟨hb, e⟩
        have eD : D.write i l = (0, D.put i.toNat (mkS l)) := by unfold Dk.write; rw [if_neg (by simp [h0]), if_neg (by simp [h64]), if_neg hc]
        have eR : R.write i l = (0, R.put i.toNat l) := by unfold Rk.write; rw [if_neg (by simp [h0']), if_neg (by simp [h64]), if_neg hz]
        rw [eD, eR]
        refine ⟨rfl, ?_⟩
        show Rel (D.put i.toNat (mkS l)) (R.put i.toNat l)
        have el : (D.put i.toNat (mkS l)).now.length = D.now.length := by simp [Dk.put]
        refine ⟨by rw [el]; exact h.n, h.dn, h.mid, by simp [Dk.put, Rk.put, h.cnt], ?_, ?_, by rw [el]; exact h.good, fun _ => ?_, by rw [el]; exact h.gf, by rw [el]; exact hpf, hpt⟩
        · simp only [Dk.put, Rk.put]
          rw [ha] at hz ⊢
          by_cases hb : D.armed = true
          · rw [if_pos hb] at hz
            simp only [hb, if_true]
            rw [if_pos (by omega)]
          · simp only [hb]
            simp
        · show D.pend ++ [(i.toNat, mkS l)] = toW D.down (R.pend ++ [(⟨i.toNat, l, false⟩ : RW)]).length 0 (R.pend ++ [(⟨i.toNat, l, false⟩ : RW)])
          rw [hd, toW_false, List.map_append, hp]
          rfl
        · rw [el]
          show D.now.set i.toNat (mkS l) = secs D.now.length (R.good ++ (R.pend ++ [⟨i.toNat, l, false⟩]))
          rw [← List.append_assoc, secs_append, ← h.now hd]
          rfl
    · have eD : D.write i l = (1, D) := by unfold Dk.write; rw [if_neg (by simp [h0]), if_pos h64]
      have eR : R.write i l = (1, R) := by unfold Rk.write; rw [if_neg (by simp [h0']), if_pos h64]
      rw [eD, eR]
      exact ⟨rfl, h⟩
  · have h0' : R.reach i ≠ 0 := by rw [← hr]; exact h0
    have eD : D.write i l = (D.reach i, D) := by unfold Dk.write; rw [if_pos h0]
    have eR : R.write i l = (R.reach i, R) := by unfold Rk.write; rw [if_pos h0']
    rw [eD, eR, hr]
    exact ⟨rfl, h⟩
theorem Rel.sync (h : Rel D R) : D.sync.1 = R.sync.1 ∧ Rel D.sync.2 R.sync.2 := by
  by_cases hd : D.down = true
  · have eD : D.sync = (19, D) := by unfold Dk.sync; rw [if_pos hd]
    have eR : R.sync = (19, R) := by unfold Rk.sync; rw [if_pos (by rw [h.dn]; exact hd)]
    rw [eD, eR]
    exact ⟨rfl, h⟩
  · have hd' : D.down = false := by simpa using hd
    have eD : D.sync = (0, D.settled (fun _ => true)) := by unfold Dk.sync; rw [if_neg hd]
    have eR : R.sync = (0, { R with good := R.good ++ R.pend, pend := [] }) := by unfold Rk.sync; rw [if_neg (by rw [h.dn]; exact hd)]
    rw [eD, eR]
    refine ⟨rfl, ?_⟩
    have hp := h.pend
    rw [hd'] at hp
    refine ⟨h.n, h.dn, h.mid, h.cnt, h.arm, rfl, ?_, fun _ => ?_, ?_, (fun q hq => by cases hq), (fun q hq => by cases hq)⟩
    · show settle (fun _ => true) 0 D.pend D.good = secs D.now.length (R.good ++ R.pend)
      rw [hp, settle_kept', kept_all _ _ _ h.pt, h.good, secs_append]
    · show D.now = secs D.now.length (R.good ++ R.pend ++ [])
      rw [List.append_nil]
      exact h.now hd'
    · intro q hq
      rcases List.mem_append.1 hq with hq | hq
      · exact h.gf q hq
      · exact h.pf q hq
theorem Rel.armed (h : Rel D R) (n : Int) : (D.arm n).1 = (R.arm n).1 ∧ Rel (D.arm n).2 (R.arm n).2 := by
  by_cases hd : D.down = true
  · have eD : D.arm n = (19, D) := by unfold Dk.arm; rw [if_pos hd]
    have eR : R.arm n = (19, R) := by unfold Rk.arm; rw [if_pos (by rw [h.dn]; exact hd)]
    rw [eD, eR]
    exact ⟨rfl, h⟩
  · by_cases hn : n < 0
    · have eD : D.arm n = (1, D) := by unfold Dk.arm; rw [if_neg hd, if_pos hn]
      have eR : R.arm n = (1, R) := by unfold Rk.arm; rw [if_neg (by rw [h.dn]; exact hd), if_pos hn]
      rw [eD, eR]
      exact ⟨rfl, h⟩
    · have eD : D.arm n = (0, { D with armed := true, left := n }) := by unfold Dk.arm; rw [if_neg hd, if_neg hn]
      have eR : R.arm n = (0, { R with armed := n }) := by unfold Rk.arm; rw [if_neg (by rw [h.dn]; exact hd), if_neg hn]
      rw [eD, eR]
      exact ⟨rfl, ⟨h.n, h.dn, h.mid, h.cnt, rfl, h.pend, h.good, h.now, h.gf, h.pf, h.pt⟩⟩
theorem Rel.restart (h : Rel D R) (ks : List Bool) : Rel (D.restart ks) (R.restart ks) := by
  have e : settle (keeps ks) 0 D.pend D.good = secs D.now.length (R.good ++ kept (keeps ks) R.midst R.pend.length 0 R.pend) := by
    rw [h.pend, settle_kept', h.good, secs_append, h.mid]
  have el : (D.restart ks).now.length = D.now.length := by
    show (settle (keeps ks) 0 D.pend D.good).length = _
    rw [e, secs_len]
  refine ⟨by rw [el]; exact h.n, rfl, rfl, h.cnt, rfl, rfl, ?_, fun _ => ?_, ?_, (fun q hq => by cases hq), (fun q hq => by cases hq)⟩
  · rw [el]; exact e
  · rw [el]
    show settle (keeps ks) 0 D.pend D.good = secs D.now.length (R.good ++ kept (keeps ks) R.midst R.pend.length 0 R.pend ++ [])
    rw [List.append_nil]
    exact e
  · intro q hq
    rw [el]
    rcases List.mem_append.1 hq with hq | hq
    · exact h.gf q hq
    · exact kept_fine _ _ _ _ _ h.pf q hq
theorem Rel.read (h : Rel D R) (i : Int) : D.readK i = R.readK i ∧ D.readB i = R.readB i := by
  have hr := h.reach i
  by_cases h0 : D.reach i = 0
  · obtain ⟨hd, hi0, hi1⟩ := reach_zero h0
    have h0' : R.reach i = 0 := by rw [← hr]; exact h0
    have e1 : D.readK i = if (D.readS i).t then 5 else 0 := by unfold Dk.readK; rw [if_neg (fun c => c h0)]
    have e2 : D.readB i = if D.readK i = 0 then (D.readS i).d else [] := rfl
    have e3 : R.readK i = foundK (R.found i) := by unfold Rk.readK; rw [if_neg (fun c => c h0')]
    have e4 : R.readB i = foundB (R.found i) := by unfold Rk.readB; rw [if_neg (fun c => c h0')]
    rw [e2, e1, e3, e4]
    clear e1 e2 e3 e4
    have hs : D.readS i = valR (R.found i) := by
      unfold Dk.readS Rk.found
      have hn := h.now hd
      have e : D.now[i.toNat]? = some (valR (lastAt (R.good ++ R.pend) i.toNat)) := by
        have := secs_at D.now.length (R.good ++ R.pend) (i := i.toNat) (by omega)
        rw [← hn] at this
        exact this
      rw [List.getD_eq_getElem?_getD, e]
      rfl
    have hfine : ∀ q, R.found i = some q → Fine D.now.length q := by
      have key : ∀ (L : List RW) (acc : Option RW), (∀ q ∈ L, Fine D.now.length q) → (∀ q, acc = some q → Fine D.now.length q) → ∀ q, L.foldl (fun acc q => if q.i = i.toNat then some q else acc) acc = some q → Fine D.now.length q := by
        intro L
        induction L with
        | nil => exact fun acc _ h2 q hq => h2 q hq
        | cons x r ih =>
          intro acc h1 h2 q hq
          rw [List.foldl_cons] at hq
          refine ih _ (fun q' hq' => h1 q' (List.mem_cons_of_mem _ hq')) (fun q' hq' => ?_) q hq
          split at hq'
          · cases hq'
            exact h1 _ (List.mem_cons_self ..)
          · exact h2 q' hq'
      exact key _ none (fun q hq => by
        rcases List.mem_append.1 hq with hq | hq
        · exact h.gf q hq
        · exact h.pf q hq) (fun q hq => by cases hq)
    rw [hs]
    cases hf : R.found i with
    | none => exact ⟨rfl, rfl⟩
    | some q =>
      have hq := hfine q hf
      show (if (secR q).t then (5 : Int) else 0) = (if q.t then 5 else 0) ∧ (if (if (secR q).t then (5 : Int) else 0) = 0 then (secR q).d else []) = (if q.t then [] else q.b)
      by_cases hqt : q.t = true
      · have e : secR q = ts := by unfold secR; rw [if_pos hqt]
        rw [e, if_pos hqt, if_pos hqt]
        exact ⟨rfl, rfl⟩
      · have e : secR q = ⟨q.b, false, hq.len, hq.oct⟩ := by unfold secR; rw [if_neg hqt, mkS_eq hq.len hq.oct]
        rw [e, if_neg hqt, if_neg hqt]
        exact ⟨rfl, rfl⟩
  · have h0' : R.reach i ≠ 0 := by rw [← hr]; exact h0
    have e1 : D.readK i = D.reach i := by unfold Dk.readK; rw [if_pos h0]
    have e2 : D.readB i = [] := by unfold Dk.readB; rw [e1, if_neg h0]
    have e3 : R.readK i = R.reach i := by unfold Rk.readK; rw [if_pos h0']
    have e4 : R.readB i = [] := by unfold Rk.readB; rw [if_pos h0']
    rw [e1, e2, e3, e4, hr]
    exact ⟨rfl, rfl⟩
theorem Rel.step (h : Rel D R) (hok : DOk D N) (q : OpD) (hy : 0 ≤ q.y ∧ q.y < 256) : stepB D R q = true ∧ Rel (stepD D q) (stepR R q) := by
  unfold stepB stepD stepR
  have hw := h.write hok q.n (secL q.y q.s) (secL_oct q.s hy)
  by_cases k0 : q.k = 0
  · rw [if_pos k0, if_pos k0, if_pos k0, hw.1]
    exact ⟨by simp, hw.2⟩
  · rw [if_neg k0, if_neg k0, if_neg k0]
    by_cases k1 : q.k = 1
    · rw [if_pos k1, if_pos k1, if_pos k1, (h.read q.n).1, (h.read q.n).2]
      exact ⟨by simp, h⟩
    · rw [if_neg k1, if_neg k1, if_neg k1]
      by_cases k2 : q.k = 2
      · rw [if_pos k2, if_pos k2, if_pos k2, h.sync.1]
        exact ⟨by simp, h.sync.2⟩
      · rw [if_neg k2, if_neg k2, if_neg k2]
        by_cases k3 : q.k = 3
        · rw [if_pos k3, if_pos k3, if_pos k3, (h.armed q.n).1]
          exact ⟨by simp, (h.armed q.n).2⟩
        · rw [if_neg k3, if_neg k3, if_neg k3]
          by_cases k4 : q.k = 4
          · rw [if_pos k4, if_pos k4]
            exact ⟨rfl, h.restart q.ks⟩
          · rw [if_neg k4, if_neg k4]
            exact ⟨rfl, h⟩
end
theorem write_n (R : Rk) (i : Int) (l : List Int) : (R.write i l).2.n = R.n := by
  unfold Rk.write
  split
  · rfl
  · split
    · rfl
    · split <;> rfl
theorem stepR_n (R : Rk) (q : OpD) : (stepR R q).n = R.n := by
  unfold stepR
  split
  · exact write_n _ _ _
  · split
    · rfl
    · split
      · unfold Rk.sync; split <;> rfl
      · split
        · unfold Rk.arm
          split
          · rfl
          · split <;> rfl
        · split <;> rfl
end Go.Proofs.Ytfkkbloapnlbgaa
