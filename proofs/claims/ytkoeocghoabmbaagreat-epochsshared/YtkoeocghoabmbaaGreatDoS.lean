/-
  Copy of a ring.
  The law's world in memory: its block, both oracles, four rings of each side, the members of each side, each under an owner of its own.
  A step of the law's world, by numbers alone: what 'do' makes of it, and what stays so.
  What the regions of the law's step leave: a change in a variable, a state in a variable.
  A change as the document's.
-/
import Derived.Test.YtkoeocghoabmbaaGreatRBg
import Derived.Deep.CutBlock
import Derived.Test.YtkoeocghoabmbaaGreatPurA
namespace Go.Proofs.YtkoeocghoabmbaaGreat
section
set_option linter.unusedVariables false
set_option linter.unusedSimpArgs false
set_option synthInstance.maxSize 20000
set_option maxHeartbeats 2000000
set_option maxRecDepth 20000
open Go.RowKit Go.Maps
structure Gd where
  ob : Nat
  rr : Nat
  ps : Nat → Int
  ss : Nat → Int
  rb : Nat → Nat
  mb : Nat → Nat
  S : St
  T : St
  M : Sm
  K : Sm
  P : Nat → Rg
  R : Nat → Rg
  last : Int
def wcs (G : Gd) (sl tl : Value) : List Value := [ptr G.ob, ptr G.rr, .int .u64 (G.ps 0), .int .u64 (G.ps 1), .int .u64 (G.ps 2), .int .u64 (G.ps 3), ptr (G.rb 0), ptr (G.rb 1), ptr (G.rb 2), ptr (G.rb 3), ptr (G.mb 0), ptr (G.mb 1), ptr (G.mb 2), ptr (G.mb 3), sl, .int .i64 G.M.e, tl, .int .i64 G.K.e, .int .u64 (G.ss 0), .int .u64 (G.ss 1), .int .u64 (G.ss 2), .int .u64 (G.ss 3), .int .u64 G.last]
theorem four {n : Nat} (h : n < 4) : n = 0 ∨ n = 1 ∨ n = 2 ∨ n = 3 := by omega
theorem wcs_p (G : Gd) (sl tl : Value) {n : Nat} (h : n < 4) : (wcs G sl tl)[2 + n]? = some (.int .u64 (G.ps n)) := by rcases four h with rfl | rfl | rfl | rfl <;> rfl
theorem wcs_r (G : Gd) (sl tl : Value) {n : Nat} (h : n < 4) : (wcs G sl tl)[6 + n]? = some (ptr (G.rb n)) := by rcases four h with rfl | rfl | rfl | rfl <;> rfl
theorem wcs_m (G : Gd) (sl tl : Value) {n : Nat} (h : n < 4) : (wcs G sl tl)[10 + n]? = some (ptr (G.mb n)) := by rcases four h with rfl | rfl | rfl | rfl <;> rfl
theorem wcs_s (G : Gd) (sl tl : Value) {n : Nat} (h : n < 4) : (wcs G sl tl)[18 + n]? = some (.int .u64 (G.ss n)) := by rcases four h with rfl | rfl | rfl | rfl <;> rfl
structure WG (w0 w : World) (o : Nat → Nat) (wb : Nat) (G : Gd) (sl tl : Value) : Prop where
  blk : Blk w wb 50 (wcs G sl tl)
  own : o wb = 9
  orc : OrcAt w o G.ob G.S
  rorc : ROrc w0 w o G.rr G.T
  s : KpF mc w o sl G.M.l
  t : KpF mc w o tl G.K.l
  rings : ∀ n, n < 4 → RIs w o (10 + n) (G.rb n) G.ob (G.P n)
  models : ∀ n, n < 4 → RRIs w o (20 + n) (G.mb n) (G.R n)
def wOwn : List Nat := [0, 1, 8, 9, 10, 11, 12, 13, 20, 21, 22, 23]
theorem wOwn_r {n : Nat} (h : n < 4) : 10 + n ∈ wOwn := by rcases four h with rfl | rfl | rfl | rfl <;> decide
theorem wOwn_m {n : Nat} (h : n < 4) : 20 + n ∈ wOwn := by rcases four h with rfl | rfl | rfl | rfl <;> decide
section
variable {w0 w w' : World} {o o' : Nat → Nat} {wb : Nat} {G : Gd} {sl tl : Value} {I : List Nat}
theorem ROrc.low {r : Nat} {T : St} (h : ROrc w0 w o r T) : Below w0.heap.size w0 w ∧ ∀ k, k < w0.heap.size → o k = 0 := by
  obtain ⟨fr, sb, ha, _, _, h3⟩ := h
  exact ⟨ha.bel, h3⟩
theorem WG.bel (h : WG w0 w o wb G sl tl) : Below w0.heap.size w0 w := h.rorc.low.1
theorem WG.low (h : WG w0 w o wb G sl tl) : ∀ k, k < w0.heap.size → o k = 0 := h.rorc.low.2
theorem WG.mv (h : WG w0 w o wb G sl tl) (m : Mv I w o w' o') (hI : ∀ i ∈ I, i ∉ wOwn) : WG w0 w' o' wb G sl tl := by
  have hn : ∀ x ∈ wOwn, x ∉ I := fun x hx e => hI x e hx
  exact ⟨h.blk.block (m.block wb h.blk.lt (by rw [h.own]; exact hn 9 (by decide))), by rw [m.ext wb h.blk.lt]; exact h.own, h.orc.mv m (hn 1 (by decide)), h.rorc.mv m (hn 0 (by decide)) (hn 8 (by decide)), h.s.mv m (hn 0 (by decide)), h.t.mv m (hn 0 (by decide)),
    fun n hn' => (h.rings n hn').mv m (hn 0 (by decide)) (hn _ (wOwn_r hn')), fun n hn' => (h.models n hn').mv m (hn 0 (by decide)) (hn _ (wOwn_m hn'))⟩
theorem WG.below (h : WG w0 w o wb G sl tl) (hb : Below w.heap.size w w') (j : Nat) : WG w0 w' (newTo o w j) wb G sl tl := h.mv (Mv.of_below (I := []) j hb) (by simp)
theorem WG.reown (h : WG w0 w o wb G sl tl) {c : Nat} (hc : 30 < c) : WG w0 w (reown c o) wb G sl tl := by
  refine ⟨h.blk, by rw [reown_not (by rw [h.own]; omega)]; exact h.own, h.orc.reown (by omega), h.rorc.reown (by omega), h.s.reown c, h.t.reown c, fun n hn => ?_, fun n hn => ?_⟩
  · obtain ⟨kv, ov, qs, hA, hr⟩ := h.rings n hn
    exact ⟨kv, ov, qs, ⟨hA.blk, by rw [reown_not (by rw [hA.own]; omega)]; exact hA.own, hA.krow, fun k hk => ⟨by rw [reown_not (by rw [(hA.kown k hk).1]; omega)]; exact (hA.kown k hk).1, (hA.kown k hk).2⟩, hA.orow, fun k hk => ⟨by rw [reown_not (by rw [(hA.oown k hk).1]; omega)]; exact (hA.oown k hk).1, (hA.oown k hk).2⟩, hA.apart, fun q hq => (hA.olds q hq).reown c⟩, hr⟩
  · obtain ⟨kv, ov, qs, hA, hr⟩ := h.models n hn
    exact ⟨kv, ov, qs, ⟨hA.blk, by rw [reown_not (by rw [hA.own]; omega)]; exact hA.own, hA.krow, fun k hk => ⟨by rw [reown_not (by rw [(hA.kown k hk).1]; omega)]; exact (hA.kown k hk).1, (hA.kown k hk).2⟩, hA.orow, fun k hk => ⟨by rw [reown_not (by rw [(hA.oown k hk).1]; omega)]; exact (hA.oown k hk).1, (hA.oown k hk).2⟩, hA.apart, fun q hq => (hA.olds q hq).reown c⟩, hr⟩
theorem WG.orcS (h : WG w0 w o wb G sl tl) {S' : St} (m : Mv [1] w o w' o') (hO : OrcAt w' o' G.ob S') : WG w0 w' o' wb { G with S := S' } sl tl :=
  ⟨h.blk.block (m.block wb h.blk.lt (by rw [h.own]; decide)), by rw [m.ext wb h.blk.lt]; exact h.own, hO, h.rorc.mv m (by decide) (by decide), h.s.mv m (by decide), h.t.mv m (by decide),
    fun n hn => (h.rings n hn).mv m (by decide) (by simp; omega), fun n hn => (h.models n hn).mv m (by decide) (by simp; omega)⟩
theorem WG.rorcS (h : WG w0 w o wb G sl tl) {T' : St} (m : Mv [8] w o w' o') (hO : ROrc w0 w' o' G.rr T') : WG w0 w' o' wb { G with T := T' } sl tl :=
  ⟨h.blk.block (m.block wb h.blk.lt (by rw [h.own]; decide)), by rw [m.ext wb h.blk.lt]; exact h.own, h.orc.mv m (by decide), hO, h.s.mv m (by decide), h.t.mv m (by decide),
    fun n hn => (h.rings n hn).mv m (by decide) (by simp; omega), fun n hn => (h.models n hn).mv m (by decide) (by simp; omega)⟩
def upd4 {α : Type} (f : Nat → α) (n : Nat) (x : α) : Nat → α := fun k => if k = n then x else f k
theorem upd4_at {α : Type} (f : Nat → α) (n : Nat) (x : α) : upd4 f n x n = x := if_pos rfl
theorem upd4_not {α : Type} (f : Nat → α) {n k : Nat} (x : α) (h : k ≠ n) : upd4 f n x k = f k := if_neg h
theorem WG.ringS (h : WG w0 w o wb G sl tl) {n : Nat} (hn : n < 4) {r : Rg} (m : Mv [10 + n] w o w' o') (hr : RIs w' o' (10 + n) (G.rb n) G.ob r) : WG w0 w' o' wb { G with P := upd4 G.P n r } sl tl :=
  ⟨h.blk.block (m.block wb h.blk.lt (by rw [h.own]; simp; omega)), by rw [m.ext wb h.blk.lt]; exact h.own, h.orc.mv m (by simp; omega), h.rorc.mv m (by simp; omega) (by simp; omega), h.s.mv m (by simp; omega), h.t.mv m (by simp; omega),
    fun k hk => by
      by_cases e : k = n
      · subst e
        dsimp only
        rw [upd4_at]
        exact hr
      · dsimp only
        rw [upd4_not _ _ e]
        exact (h.rings k hk).mv m (by simp; omega) (by simp; omega),
    fun k hk => (h.models k hk).mv m (by simp; omega) (by simp; omega)⟩
theorem WG.modelS (h : WG w0 w o wb G sl tl) {n : Nat} (hn : n < 4) {r : Rg} (m : Mv [20 + n] w o w' o') (hr : RRIs w' o' (20 + n) (G.mb n) r) : WG w0 w' o' wb { G with R := upd4 G.R n r } sl tl :=
  ⟨h.blk.block (m.block wb h.blk.lt (by rw [h.own]; simp; omega)), by rw [m.ext wb h.blk.lt]; exact h.own, h.orc.mv m (by simp; omega), h.rorc.mv m (by simp; omega) (by simp; omega), h.s.mv m (by simp; omega), h.t.mv m (by simp; omega),
    fun k hk => (h.rings k hk).mv m (by simp; omega) (by simp; omega),
    fun k hk => by
      by_cases e : k = n
      · subst e
        dsimp only
        rw [upd4_at]
        exact hr
      · dsimp only
        rw [upd4_not _ _ e]
        exact (h.models k hk).mv m (by simp; omega) (by simp; omega)⟩
theorem WG.wrote (h : WG w0 w o wb G sl tl) {G' : Gd} {sl' tl' : Value} (hg : w.grownBy w' (some wb)) (hb : Blk w' wb 50 (wcs G' sl' tl')) (e1 : G'.ob = G.ob ∧ G'.rr = G.rr ∧ G'.S = G.S ∧ G'.T = G.T ∧ G'.rb = G.rb ∧ G'.mb = G.mb ∧ G'.P = G.P ∧ G'.R = G.R)
    (hs : KpF mc w o sl' G'.M.l) (ht : KpF mc w o tl' G'.K.l) : WG w0 w' (newTo o w 9) wb G' sl' tl' ∧ Mv [9] w o w' (newTo o w 9) := by
  have m : Mv [9] w o w' (newTo o w 9) := Mv.of_turn 9 (turn_grown hg) (fun k hk _ => by
    simp at hk
    subst hk
    rw [h.own]; decide)
  obtain ⟨e1, e2, e3, e4, e5, e6, e7, e8⟩ := e1
  refine ⟨⟨hb, by rw [m.ext wb h.blk.lt]; exact h.own, ?_, ?_, hs.mv m (by decide), ht.mv m (by decide), fun n hn => ?_, fun n hn => ?_⟩, m⟩
  · rw [e1, e3]; exact h.orc.mv m (by decide)
  · rw [e2, e4]; exact h.rorc.mv m (by decide) (by decide)
  · rw [e1, e5, e7]; exact (h.rings n hn).mv m (by decide) (by simp; omega)
  · rw [e6, e8]; exact (h.models n hn).mv m (by decide) (by simp; omega)
theorem WG.setLast (h : WG w0 w o wb G sl tl) (x : Int) : WG w0 (w.setCell ⟨wb, 22, none⟩ (.int .u64 x)) (newTo o w 9) wb { G with last := x } sl tl ∧ Mv [9] w o (w.setCell ⟨wb, 22, none⟩ (.int .u64 x)) (newTo o w 9) :=
  h.wrote (G' := { G with last := x }) (grown_setCell w wb 22 _) (h.blk.set 22 _) ⟨rfl, rfl, rfl, rfl, rfl, rfl, rfl, rfl⟩ h.s h.t
theorem WG.setS (h : WG w0 w o wb G sl tl) {v : Value} {M : Sm} (hv : KpF mc w o v M.l) : WG w0 ((w.setCell ⟨wb, 14, none⟩ v).setCell ⟨wb, 15, none⟩ (.int .i64 M.e)) (newTo o w 9) wb { G with M := M } v tl ∧ Mv [9] w o ((w.setCell ⟨wb, 14, none⟩ v).setCell ⟨wb, 15, none⟩ (.int .i64 M.e)) (newTo o w 9) :=
  h.wrote (G' := { G with M := M }) (grown_trans (grown_setCell w wb 14 _) (grown_setCell _ wb 15 _) (fun k hk => .inl hk)) ((h.blk.set 14 _).set 15 _) ⟨rfl, rfl, rfl, rfl, rfl, rfl, rfl, rfl⟩ hv h.t
theorem WG.setT (h : WG w0 w o wb G sl tl) {v : Value} {K : Sm} (hv : KpF mc w o v K.l) : WG w0 ((w.setCell ⟨wb, 16, none⟩ v).setCell ⟨wb, 17, none⟩ (.int .i64 K.e)) (newTo o w 9) wb { G with K := K } sl v ∧ Mv [9] w o ((w.setCell ⟨wb, 16, none⟩ v).setCell ⟨wb, 17, none⟩ (.int .i64 K.e)) (newTo o w 9) :=
  h.wrote (G' := { G with K := K }) (grown_trans (grown_setCell w wb 16 _) (grown_setCell _ wb 17 _) (fun k hk => .inl hk)) ((h.blk.set 16 _).set 17 _) ⟨rfl, rfl, rfl, rfl, rfl, rfl, rfl, rfl⟩ h.s hv
theorem KpF.slice {α : Type} {f : α → List Value} {w : World} {o : Nat → Nat} {v : Value} {l : List α} (h : KpF f w o v l) : ∃ a c, v = .slice a l.length c := h.1.len
end
structure GOk (G : Gd) (n m : Nat) : Prop where
  ora : Ora G.S n
  mok : MOk G.M
  len : G.M.l.length ≤ m
  pos : G.M.l ≠ []
  mem : ∀ x ∈ G.M.l, U64 x.p ∧ I64 x.w
  ps : ∀ n, n < 4 → U64 (G.ps n)
  last : U64 G.last
end
section
set_option linter.unusedVariables false
set_option linter.unusedSimpArgs false
set_option synthInstance.maxSize 20000
set_option maxHeartbeats 2000000
set_option maxRecDepth 20000
open Go.RowKit Go.Maps
structure Ope where
  k : Int
  w : Int
  p : Int
  ws : List Wp
  o : List Int
def opC (G : Gd) (x : Ope) : Cg :=
  if x.k = 0 then ⟨1, x.w, if 0 ≤ x.w ∧ x.w < 4 then G.ps x.w.toNat else x.p, 0, [], []⟩
  else if x.k = 2 then ⟨2, x.w, 0, 0, [], []⟩
  else if x.k = 4 then ⟨3, 0, 0, 0, x.ws, x.o⟩
  else ⟨1, x.w, x.p, 0, [], []⟩
def opB (G : Gd) : Bg := beginM G.S G.M.l G.M.e G.last
def lrnK (G : Gd) (c : Cg) (k : Nat) : Gd := { G with P := fun n => if n < k then (learnP G.S (G.P n) c).1 else G.P n, R := fun n => if n < k then (learnR G.S (G.R n) c).1 else G.R n }
def appG (G : Gd) (c : Cg) : Gd := if (applyM G.M c).2 = 0 then { G with M := (applyM G.M c).1, K := (applyM G.M c).1 } else G
def doA (G : Gd) (c : Cg) (x : Ope) : Gd := if c.k ≠ 3 ∨ ((applyM G.M c).2 ≠ 0 ∧ x.k ≠ 4) then appG G c else lrnK (appG G c) c 4
def begG (G : Gd) : Gd := { G with S := (opB G).S, T := (opB G).S }
def doM (G : Gd) (x : Ope) : Gd :=
  if x.k = 3 then (if (opB G).k = 0 then doA { begG G with last := (opB G).key } (opB G).c x else begG G)
  else doA G (opC G x) x
theorem lrnK_zero (G : Gd) (c : Cg) : lrnK G c 0 = G := by
  unfold lrnK
  simp
theorem step_fun {α : Type} (f g : Nat → α) (k : Nat) : upd4 (fun n => if n < k then f n else g n) k (f k) = fun n => if n < k + 1 then f n else g n := by
  funext n
  unfold upd4
  by_cases h : n = k
  · subst h; simp
  · by_cases h2 : n < k
    · simp [h, h2, show n < k + 1 by omega]
    · simp [h, h2, show ¬ n < k + 1 by omega]
theorem lrnK_succ (G : Gd) (c : Cg) (k : Nat) : { { lrnK G c k with P := upd4 (lrnK G c k).P k (learnP G.S (G.P k) c).1 } with R := upd4 (lrnK G c k).R k (learnR G.S (G.R k) c).1 } = lrnK G c (k + 1) := by
  have h1 := step_fun (fun n => (learnP G.S (G.P n) c).1) G.P k
  have h2 := step_fun (fun n => (learnR G.S (G.R n) c).1) G.R k
  unfold lrnK
  dsimp only at h1 h2 ⊢
  rw [h1, h2]
theorem lrnK_P (G : Gd) (c : Cg) (k : Nat) : (lrnK G c k).P k = G.P k := by unfold lrnK; simp
theorem lrnK_R (G : Gd) (c : Cg) (k : Nat) : (lrnK G c k).R k = G.R k := by unfold lrnK; simp
structure Inv (G : Gd) (n m : Nat) : Prop where
  ok : GOk G n m
  ts : G.T = G.S
  km : G.K = G.M
  rel : ∀ k, k < 4 → RRel (G.P k) (G.R k)
  who : ∀ k, k < 4 → (G.P k).w = k
theorem apply_mem {S : Sm} {c : Cg} (h : (applyM S c).2 = 0) (hm : ∀ x ∈ S.l, U64 x.p ∧ I64 x.w) (hp : U64 c.p) (hw : I64 c.w) : ∀ x ∈ (applyM S c).1.l, U64 x.p ∧ I64 x.w := by
  intro x hx
  rcases apply_cases h with ⟨_, _, _, h3⟩ | ⟨_, _, m, h1, _, h3⟩ | ⟨_, _, _, _, h3⟩ <;> rw [h3] at hx
  · rcases (insL_mem _ _ _).1 hx with e | e
    · subst e
      exact ⟨hp, hw⟩
    · exact hm x e
  · rcases setW_mem hx with e | ⟨y, h4, _, h6⟩
    · exact hm x e
    · subst h6
      exact hm y h4
  · exact hm x hx
theorem Keeps.pos {l l' : List Mb} (h : Keeps l l') (hl : l ≠ []) : l' ≠ [] := by
  cases l with
  | nil => exact absurd rfl hl
  | cons x l =>
    obtain ⟨y, hy, _⟩ := h x (by simp)
    intro e
    rw [e] at hy
    cases hy
theorem GOk.app {G : Gd} {n m : Nat} (h : GOk G n m) {c : Cg} (hp : U64 c.p) (hw : I64 c.w) : GOk (appG G c) n (m + 1) := by
  unfold appG
  split
  · rename_i h0
    obtain ⟨h1, h2, _, _, h5⟩ := apply_ok h.mok h0
    exact ⟨h.ora, h1, by have := h.len; dsimp only; omega, h5.pos h.pos, apply_mem h0 h.mem hp hw, h.ps, h.last⟩
  · exact ⟨h.ora, h.mok, by have := h.len; omega, h.pos, h.mem, h.ps, h.last⟩
theorem GOk.lrn {G : Gd} {n m : Nat} (h : GOk G n m) (c : Cg) (k : Nat) : GOk (lrnK G c k) n m := ⟨h.ora, h.mok, h.len, h.pos, h.mem, h.ps, h.last⟩
theorem learnG_w (S : St) (r : Rg) (c : Cg) (f : List Int → List (List Int) → List (List Int)) : (learnG S r c f).1.w = r.w := by
  unfold learnG
  split
  · split <;> rfl
  · rfl
theorem Inv.app {G : Gd} {n m : Nat} (h : Inv G n m) {c : Cg} (hp : U64 c.p) (hw : I64 c.w) : Inv (appG G c) n (m + 1) := by
  refine ⟨h.ok.app hp hw, ?_, ?_, ?_, ?_⟩
  · unfold appG; split <;> exact h.ts
  · unfold appG
    split
    · rfl
    · exact h.km
  · unfold appG; split <;> exact h.rel
  · unfold appG; split <;> exact h.who
theorem Inv.lrn {G : Gd} {n m : Nat} (h : Inv G n m) (c : Cg) : Inv (lrnK G c 4) n m := by
  refine ⟨h.ok.lrn c 4, h.ts, h.km, fun k hk => ?_, fun k hk => ?_⟩
  · unfold lrnK
    dsimp only
    rw [if_pos hk, if_pos hk]
    exact (learn_rel (h.rel k hk) c).2
  · unfold lrnK
    dsimp only
    rw [if_pos hk]
    unfold learnP
    rw [learnG_w]
    exact h.who k hk
theorem Inv.doA {G : Gd} {n m : Nat} (h : Inv G n m) {c : Cg} (hp : U64 c.p) (hw : I64 c.w) (x : Ope) : Inv (doA G c x) n (m + 1) := by
  unfold Proofs.YtkoeocghoabmbaaGreat.doA
  split
  · exact h.app hp hw
  · exact (h.app hp hw).lrn c
theorem oldM_ora {S : St} {n : Nat} (h : Ora S n) (hn : n ≤ 80000) {key e last : Int} (hk : S.at key = some .key) : Ora (oldM S key e last).2 (n + 1) := by
  unfold oldM
  split
  · exact h.le (by omega)
  · rw [seal_key hk]
    exact h.put (by omega) (x := .seal key (form (e + 1).toNat) (be8 last)) ⟨(at_ok h.good hk).1, form_oct _, be8_oct _⟩ (fun _ _ e => by cases e) (fun _ _ _ e => by cases e) (fun k b p e => by cases e; simp [be8])
theorem begin_ora {S : St} {n : Nat} (h : Ora S n) (l : List Mb) (e last : Int) (hn : n + l.length + 5 ≤ 80000) : Ora (beginM S l e last).S (n + l.length + 3) := by
  have hnl : (nowM l).length ≤ l.length := by unfold nowM; exact List.length_filter_le _ _
  have h1 := h.key (by omega)
  obtain ⟨h2, h3⟩ := wrapF_ora (key := S.fresh) (nowM l) h1 (by omega)
  unfold beginM
  split
  · exact h1.le (by omega)
  · split
    · exact (oldM_ora h2 (by omega) (h3 _ _ (put_key_at h (by omega)))).le (by omega)
    · exact h2.le (by omega)
theorem begin_key {S : St} {n : Nat} (h : Ora S n) (l : List Mb) (e last : Int) (hn : n ≤ 80000) : U64 (beginM S l e last).key := by
  have hf := fresh_ok h.good (by have := h.len; omega)
  unfold beginM
  split
  · unfold U64; dsimp only; omega
  · split
    · exact hf.2.2.1
    · unfold U64; dsimp only; omega
theorem bgc_pw (B : Bg) : U64 B.c.p ∧ I64 B.c.w := by
  unfold Bg.c
  split <;> (unfold U64 I64; dsimp only; omega)
theorem opC_pw {G : Gd} {n m : Nat} (h : GOk G n m) {x : Ope} (hp : U64 x.p) (hw : I64 x.w) : U64 (opC G x).p ∧ I64 (opC G x).w := by
  unfold opC
  split
  · dsimp only
    split
    · rename_i h1
      exact ⟨h.ps _ (by omega), hw⟩
    · exact ⟨hp, hw⟩
  · split
    · exact ⟨by unfold U64; dsimp only; omega, hw⟩
    · split
      · exact ⟨by unfold U64; dsimp only; omega, by unfold I64; dsimp only; omega⟩
      · exact ⟨hp, hw⟩
theorem Inv.beg {G : Gd} {n m : Nat} (h : Inv G n m) (hn : n + m + 5 ≤ 80000) : Inv (begG G) (n + m + 3) m := by
  refine ⟨⟨(begin_ora h.ok.ora _ _ _ (by have := h.ok.len; omega)).le (by have := h.ok.len; omega), h.ok.mok, h.ok.len, h.ok.pos, h.ok.mem, h.ok.ps, h.ok.last⟩, rfl, h.km, h.rel, h.who⟩
theorem Inv.doM {G : Gd} {n m : Nat} (h : Inv G n m) (hn : n + m + 5 ≤ 80000) {x : Ope} (hp : U64 x.p) (hw : I64 x.w) : Inv (doM G x) (n + m + 3) (m + 1) := by
  unfold Proofs.YtkoeocghoabmbaaGreat.doM
  split
  · have hb := h.beg hn
    split
    · have h2 : Inv { begG G with last := (opB G).key } (n + m + 3) m := ⟨⟨hb.ok.ora, hb.ok.mok, hb.ok.len, hb.ok.pos, hb.ok.mem, hb.ok.ps, begin_key h.ok.ora _ _ _ (by omega)⟩, rfl, hb.km, hb.rel, hb.who⟩
      exact h2.doA (bgc_pw _).1 (bgc_pw _).2 x
    · exact ⟨⟨hb.ok.ora, hb.ok.mok, by have := hb.ok.len; omega, hb.ok.pos, hb.ok.mem, hb.ok.ps, hb.ok.last⟩, hb.ts, hb.km, hb.rel, hb.who⟩
  · have h3 := h.doA (opC_pw h.ok hp hw).1 (opC_pw h.ok hp hw).2 x
    exact ⟨⟨h3.ok.ora.le (by omega), h3.ok.mok, h3.ok.len, h3.ok.pos, h3.ok.mem, h3.ok.ps, h3.ok.last⟩, h3.ts, h3.km, h3.rel, h3.who⟩
structure OpAt (w : World) (o : Nat → Nat) (x : Ope) (a b : Value) (qs : List Wq) : Prop where
  cg : CgAt w ⟨3, 0, 0, 0, x.ws, x.o⟩ a b qs
  ka : KpF wq w o a qs
  kq : ∀ q ∈ qs, Kp0 w o q.2 q.1.b
  kb : Kp0 w o b x.o
  hk : I64 x.k
  hw : I64 x.w
  hp : U64 x.p
  few : qs.length ≤ 20 ∧ x.o.length ≤ 60
def opv (x : Ope) (a b : Value) : Value := .agg #[.int .i64 x.k, .int .i64 x.w, .int .u64 x.p, a, b]
theorem OpAt.mv {I : List Nat} {w w' : World} {o o' : Nat → Nat} {x : Ope} {a b : Value} {qs : List Wq} (h : OpAt w o x a b qs) (m : Mv I w o w' o') (h0 : 0 ∉ I) : OpAt w' o' x a b qs :=
  ⟨⟨(h.ka.mv m h0).1, fun q hq => ((h.kq q hq).mv m h0).1, h.cg.ok, h.cg.ws, (h.kb.mv m h0).1, h.cg.k, h.cg.w, h.cg.p, h.cg.l⟩, h.ka.mv m h0, fun q hq => (h.kq q hq).mv m h0, h.kb.mv m h0, h.hk, h.hw, h.hp, h.few⟩
end
section
set_option linter.unusedVariables false
set_option linter.unusedSimpArgs false
set_option synthInstance.maxSize 20000
set_option maxHeartbeats 2000000
set_option maxRecDepth 20000
open Go.RowKit Go.Maps
structure CVar (w : World) (o : Nat → Nat) (vb : Nat) (T : TypeId) (c : Cg) (a b : Value) (qs : List Wq) : Prop where
  var : Blk w vb T (cc c a b)
  own : o vb = 0
  cg : CgAt w c a b qs
  ka : KpF wq w o a qs
  kq : ∀ q ∈ qs, Kp0 w o q.2 q.1.b
  kb : Kp0 w o b c.o
theorem CVar.mv {I : List Nat} {w w' : World} {o o' : Nat → Nat} {vb : Nat} {T : TypeId} {c : Cg} {a b : Value} {qs : List Wq} (h : CVar w o vb T c a b qs) (m : Mv I w o w' o') (h0 : 0 ∉ I) : CVar w' o' vb T c a b qs :=
  ⟨h.var.block (m.block vb h.var.lt (by rw [h.own]; exact h0)), by rw [m.ext vb h.var.lt]; exact h.own, ⟨(h.ka.mv m h0).1, fun q hq => ((h.kq q hq).mv m h0).1, h.cg.ok, h.cg.ws, (h.kb.mv m h0).1, h.cg.k, h.cg.w, h.cg.p, h.cg.l⟩, h.ka.mv m h0, fun q hq => (h.kq q hq).mv m h0, h.kb.mv m h0⟩
theorem CVar.reown {w : World} {o : Nat → Nat} {vb : Nat} {T : TypeId} {c : Cg} {a b : Value} {qs : List Wq} (h : CVar w o vb T c a b qs) (d : Nat) : CVar w (reown d o) vb T c a b qs :=
  ⟨h.var, reown_zero h.own, h.cg, h.ka.reown d, fun q hq => (h.kq q hq).reown d, h.kb.reown d⟩
theorem cvar_new {w : World} {o : Nat → Nat} {c : Cg} {a b : Value} {qs : List Wq} (T : TypeId) (hC : CgAt w c a b qs) (ha : KpF wq w o a qs) (hq : ∀ q ∈ qs, Kp0 w o q.2 q.1.b) (hk : Kp0 w o b c.o) :
    CVar (w.alloc (.cells #[.int .i64 c.k, .int .i64 c.w, .int .u64 c.p, .int .i64 c.l, a, b] T)) (newTo o w 0) w.heap.size T c a b qs := by
  have m : Mv [] w o (w.alloc (.cells #[.int .i64 c.k, .int .i64 c.w, .int .u64 c.p, .int .i64 c.l, a, b] T)) (newTo o w 0) := Mv.of_below 0 (balloc (Below.refl _ _) _)
  exact ⟨blk_new w _ T, newTo_new (Nat.le_refl _), hC.below (balloc (Below.refl _ _) _), ha.mv m (by simp), fun q hq' => (hq q hq').mv m (by simp), hk.mv m (by simp)⟩
theorem cvar_put {w : World} {o : Nat → Nat} {c : Cg} {a b : Value} {qs : List Wq} {vb d : Nat} {T : TypeId} {u0 u1 u2 u3 u4 u5 : Value} (hd : d ≠ 0) (hb : Blk w vb T [u0, u1, u2, u3, u4, u5]) (ho : o vb = d) (hC : CgAt w c a b qs) (ha : KpF wq w o a qs) (hq : ∀ q ∈ qs, Kp0 w o q.2 q.1.b) (hk : Kp0 w o b c.o) :
    CVar (put6 w vb (.int .i64 c.k) (.int .i64 c.w) (.int .u64 c.p) (.int .i64 c.l) a b) (reown d (newTo o w 0)) vb T c a b qs ∧ Mv [d] w o (put6 w vb (.int .i64 c.k) (.int .i64 c.w) (.int .u64 c.p) (.int .i64 c.l) a b) (newTo o w 0) := by
  have m : Mv [d] w o (put6 w vb (.int .i64 c.k) (.int .i64 c.w) (.int .u64 c.p) (.int .i64 c.l) a b) (newTo o w 0) := Mv.of_turn 0 (turn_grown (put6_grown _ _ _ _ _ _ _ _)) (fun k hk _ => by
    simp at hk
    subst hk
    rw [ho]; simp)
  have h0 : 0 ∉ [d] := by simp; omega
  refine ⟨⟨put6_blk hb, reown_at (by rw [newTo_old hb.lt]; exact ho), ⟨(ha.mv m h0).1, fun q hq' => ((hq q hq').mv m h0).1, hC.ok, hC.ws, (hk.mv m h0).1, hC.k, hC.w, hC.p, hC.l⟩, (ha.mv m h0).reown d, fun q hq' => ((hq q hq').mv m h0).reown d, (hk.mv m h0).reown d⟩, m⟩
theorem Mv.drew {I : List Nat} {w w' : World} {o o' : Nat → Nat} (h : Mv I w.drew o w' o') : Mv I w o w' o' := ⟨h.os, h.tape, h.output, h.size, h.ext, h.block⟩
theorem mv_drew (I : List Nat) (w : World) (o : Nat → Nat) : Mv I w o w.drew o := ⟨rfl, rfl, rfl, Nat.le_refl _, fun _ _ => rfl, fun _ _ _ => rfl⟩
def zC6 : Array Value := #[.int .i64 0, .int .i64 0, .int .u64 0, .int .i64 0, .slice none 0 0, .slice none 0 0]
section
variable {w0 W w5 : World} {oW o5 : Nat → Nat} {wb d : Nat} {G : Gd} {sl tl : Value} {B : Bg} {a b : Value} {qs : List Wq}
theorem bgA_new (h : WG w0 W oW wb G sl tl) (hO : OrcAt w5 o5 G.ob B.S) (hC : CgAt w5 B.c a b qs) (ha : KpF wq w5 o5 a qs) (hq : ∀ q ∈ qs, Kp0 w5 o5 q.2 q.1.b) (hk : Kp0 w5 o5 b B.c.o) (hM : Mv [1] W.drew oW w5 o5) :
    WG w0 (w5.alloc (.cells #[.int .i64 B.c.k, .int .i64 B.c.w, .int .u64 B.c.p, .int .i64 B.c.l, a, b] 59)) (newTo o5 w5 0) wb { G with S := B.S } sl tl ∧ CVar (w5.alloc (.cells #[.int .i64 B.c.k, .int .i64 B.c.w, .int .u64 B.c.p, .int .i64 B.c.l, a, b] 59)) (newTo o5 w5 0) w5.heap.size 59 B.c a b qs ∧ Mv [1] W oW (w5.alloc (.cells #[.int .i64 B.c.k, .int .i64 B.c.w, .int .u64 B.c.p, .int .i64 B.c.l, a, b] 59)) (newTo o5 w5 0) :=
  ⟨(h.orcS hM.drew hO).below (balloc (Below.refl _ _) _) 0, cvar_new 59 hC ha hq hk, hM.drew.trans (Mv.of_below 0 (balloc (Below.refl _ _) _))⟩
theorem bgA_put (h : WG w0 W oW wb G sl tl) (hd : 30 < d) (hdn : ∀ k, k < W.heap.size → oW k ≠ d) (hO : OrcAt w5 o5 G.ob B.S) (hC : CgAt w5 B.c a b qs) (ha : KpF wq w5 o5 a qs) (hq : ∀ q ∈ qs, Kp0 w5 o5 q.2 q.1.b) (hk : Kp0 w5 o5 b B.c.o)
    (hM : Mv [1] (W.alloc (.cells zC6 59)).drew (newTo oW W d) w5 o5) :
    WG w0 (put6 w5 W.heap.size (.int .i64 B.c.k) (.int .i64 B.c.w) (.int .u64 B.c.p) (.int .i64 B.c.l) a b) (reown d (newTo o5 w5 0)) wb { G with S := B.S } sl tl ∧ CVar (put6 w5 W.heap.size (.int .i64 B.c.k) (.int .i64 B.c.w) (.int .u64 B.c.p) (.int .i64 B.c.l) a b) (reown d (newTo o5 w5 0)) W.heap.size 59 B.c a b qs ∧ Mv [1] W oW (put6 w5 W.heap.size (.int .i64 B.c.k) (.int .i64 B.c.w) (.int .u64 B.c.p) (.int .i64 B.c.l) a b) (reown d (newTo o5 w5 0)) := by
  have m1 : Mv [] W oW (W.alloc (.cells zC6 59)) (newTo oW W d) := Mv.of_below d (balloc (Below.refl _ _) _)
  have hz : Blk (W.alloc (.cells zC6 59)) W.heap.size 59 zC6.toList := blk_new W _ 59
  have hb5 : Blk w5 W.heap.size 59 zC6.toList := hz.block (hM.drew.block _ hz.lt (by rw [newTo_new (Nat.le_refl _)]; simp; omega))
  have ho5 : o5 W.heap.size = d := by rw [hM.drew.ext _ hz.lt]; exact newTo_new (Nat.le_refl _)
  obtain ⟨c1, m5⟩ := cvar_put (by omega) hb5 ho5 hC ha hq hk
  have hw5 := (h.mv m1 (by simp)).orcS hM.drew hO
  refine ⟨(hw5.mv m5 (fun i hi => by simp at hi; subst hi; unfold wOwn; simp; omega)).reown hd, c1, ?_⟩
  have mm : Mv [d, 1] W oW (put6 w5 W.heap.size (.int .i64 B.c.k) (.int .i64 B.c.w) (.int .u64 B.c.p) (.int .i64 B.c.l) a b) (newTo o5 w5 0) := (m1.widen (by simp)).trans ((hM.drew.widen (by simp)).trans (m5.widen (by simp)))
  exact (mm.restrict hdn).reown hdn
theorem bgA_zero (hd : 30 < d) (hM : Mv [1] (W.alloc (.cells zC6 59)).drew (newTo oW W d) w5 o5) : Blk w5 W.heap.size 59 [.int .i64 0, .int .i64 0, .int .u64 0, .int .i64 0, .slice none 0 0, .slice none 0 0] := by
  have hz : Blk (W.alloc (.cells zC6 59)) W.heap.size 59 zC6.toList := blk_new W _ 59
  exact hz.block (hM.drew.block _ hz.lt (by rw [newTo_new (Nat.le_refl _)]; simp; omega))
theorem rbgA_new (h : WG w0 W oW wb G sl tl) (hO : ROrc w0 w5 o5 G.rr B.S) (hC : CgAt w5 B.c a b qs) (ha : KpF wq w5 o5 a qs) (hq : ∀ q ∈ qs, Kp0 w5 o5 q.2 q.1.b) (hk : Kp0 w5 o5 b B.c.o) (hM : Mv [8] W.drew oW w5 o5) :
    WG w0 (w5.alloc (.cells #[.int .i64 B.c.k, .int .i64 B.c.w, .int .u64 B.c.p, .int .i64 B.c.l, a, b] 67)) (newTo o5 w5 0) wb { G with T := B.S } sl tl ∧ CVar (w5.alloc (.cells #[.int .i64 B.c.k, .int .i64 B.c.w, .int .u64 B.c.p, .int .i64 B.c.l, a, b] 67)) (newTo o5 w5 0) w5.heap.size 67 B.c a b qs ∧ Mv [8] W oW (w5.alloc (.cells #[.int .i64 B.c.k, .int .i64 B.c.w, .int .u64 B.c.p, .int .i64 B.c.l, a, b] 67)) (newTo o5 w5 0) :=
  ⟨(h.rorcS hM.drew hO).below (balloc (Below.refl _ _) _) 0, cvar_new 67 hC ha hq hk, hM.drew.trans (Mv.of_below 0 (balloc (Below.refl _ _) _))⟩
theorem rbgA_put (h : WG w0 W oW wb G sl tl) (hd : 30 < d) (hdn : ∀ k, k < W.heap.size → oW k ≠ d) (hO : ROrc w0 w5 o5 G.rr B.S) (hC : CgAt w5 B.c a b qs) (ha : KpF wq w5 o5 a qs) (hq : ∀ q ∈ qs, Kp0 w5 o5 q.2 q.1.b) (hk : Kp0 w5 o5 b B.c.o)
    (hM : Mv [8] (W.alloc (.cells zC6 67)).drew (newTo oW W d) w5 o5) :
    WG w0 (put6 w5 W.heap.size (.int .i64 B.c.k) (.int .i64 B.c.w) (.int .u64 B.c.p) (.int .i64 B.c.l) a b) (reown d (newTo o5 w5 0)) wb { G with T := B.S } sl tl ∧ CVar (put6 w5 W.heap.size (.int .i64 B.c.k) (.int .i64 B.c.w) (.int .u64 B.c.p) (.int .i64 B.c.l) a b) (reown d (newTo o5 w5 0)) W.heap.size 67 B.c a b qs ∧ Mv [8] W oW (put6 w5 W.heap.size (.int .i64 B.c.k) (.int .i64 B.c.w) (.int .u64 B.c.p) (.int .i64 B.c.l) a b) (reown d (newTo o5 w5 0)) := by
  have m1 : Mv [] W oW (W.alloc (.cells zC6 67)) (newTo oW W d) := Mv.of_below d (balloc (Below.refl _ _) _)
  have hz : Blk (W.alloc (.cells zC6 67)) W.heap.size 67 zC6.toList := blk_new W _ 67
  have hb5 : Blk w5 W.heap.size 67 zC6.toList := hz.block (hM.drew.block _ hz.lt (by rw [newTo_new (Nat.le_refl _)]; simp; omega))
  have ho5 : o5 W.heap.size = d := by rw [hM.drew.ext _ hz.lt]; exact newTo_new (Nat.le_refl _)
  obtain ⟨c1, m5⟩ := cvar_put (by omega) hb5 ho5 hC ha hq hk
  have hw5 := (h.mv m1 (by simp)).rorcS hM.drew hO
  refine ⟨(hw5.mv m5 (fun i hi => by simp at hi; subst hi; unfold wOwn; simp; omega)).reown hd, c1, ?_⟩
  have mm : Mv [d, 8] W oW (put6 w5 W.heap.size (.int .i64 B.c.k) (.int .i64 B.c.w) (.int .u64 B.c.p) (.int .i64 B.c.l) a b) (newTo o5 w5 0) := (m1.widen (by simp)).trans ((hM.drew.widen (by simp)).trans (m5.widen (by simp)))
  exact (mm.restrict hdn).reown hdn
theorem rbgA_zero (hd : 30 < d) (hM : Mv [8] (W.alloc (.cells zC6 67)).drew (newTo oW W d) w5 o5) : Blk w5 W.heap.size 67 [.int .i64 0, .int .i64 0, .int .u64 0, .int .i64 0, .slice none 0 0, .slice none 0 0] := by
  have hz : Blk (W.alloc (.cells zC6 67)) W.heap.size 67 zC6.toList := blk_new W _ 67
  exact hz.block (hM.drew.block _ hz.lt (by rw [newTo_new (Nat.le_refl _)]; simp; omega))
end
structure ApF (W w : World) (tb : Nat) (T : TypeId) (lv v : Value) (S : Sm) : Prop where
  var : Blk w tb T [v, .int .i64 S.e]
  row : RowF mc w v S.l
  new : ∀ j, v.ownBlock = some j → W.heap.size ≤ j ∨ lv.ownBlock = some j
  le : W.heap.size ≤ tb
  bel : Below W.heap.size W w
theorem apF_new {W w : World} {lv v : Value} {S : Sm} (T : TypeId) (h : RowF mc w v S.l) (hn : ∀ j, v.ownBlock = some j → W.heap.size ≤ j ∨ lv.ownBlock = some j) (hb : Below W.heap.size W w) : ApF W (w.alloc (.cells #[v, .int .i64 S.e] T)) w.heap.size T lv v S :=
  ⟨blk_new w _ T, h.below (balloc (Below.refl _ _) _), hn, hb.size, balloc hb _⟩
theorem apF_put {W w : World} {tb : Nat} {T : TypeId} {lv v u0 u1 : Value} {S : Sm} (hz : Blk w tb T [u0, u1]) (h : RowF mc w v S.l) (hn : ∀ j, v.ownBlock = some j → W.heap.size ≤ j ∨ lv.ownBlock = some j) (hne : v.ownBlock ≠ some tb) (hb : Below W.heap.size W w) (ht : W.heap.size ≤ tb) : ApF W (putS w tb v S.e) tb T lv v S :=
  ⟨(hz.set 0 _).set 1 _, h.blocks (fun j hj hlt => by
    unfold putS
    rw [(grown_setCell (w.setCell ⟨tb, 0, none⟩ v) tb 1 (.int .i64 S.e)).block j (by simpa using hlt) (fun e => hne (by rw [hj]; exact e)), (grown_setCell w tb 0 v).block j hlt (fun e => hne (by rw [hj]; exact e))]), hn, ht, putS_below hb ht⟩
theorem ApF.kp {W w : World} {o : Nat → Nat} {tb : Nat} {T : TypeId} {lv v : Value} {S : Sm} {l : List Mb} (h : ApF W w tb T lv v S) (hl : KpF mc W o lv l) (hp : l ≠ []) : KpF mc w (newTo o W 0) v S.l := ⟨h.row, fun hs j hj => by
  refine ⟨rowF_lt mc_pos h.row hs j hj, ?_⟩
  rcases h.new j hj with e | e
  · exact newTo_new e
  · rw [newTo_old (hl.2 hp j e).1]; exact (hl.2 hp j e).2⟩
end
section
set_option linter.unusedVariables false
set_option linter.unusedSimpArgs false
set_option synthInstance.maxSize 20000
set_option maxHeartbeats 2000000
set_option maxRecDepth 20000
open Go.RowKit Go.Maps
theorem back30 {w : World} {a b : Value} {c : Cg} {qs : List Wq} (h : CgAt w c a b qs) (hlen : qs.length ≤ 1000) : Calls Tryz.prog 18 #[cv c a b] w fun r w' => ∃ a', r = .returned (cv c a' b) ∧ CgAt w' c a' b qs ∧ Below w.heap.size w w' := by
  have HC : Hid (∀ w', Below w.heap.size w w' → CgAt w' c a b qs) := fun w' hb => h.below hb
  have hone := h.one
  have HOne : Hid (∀ q, q ∈ qs → ∀ u ∈ flat wq [q], u.oneCell' = true) := fun q hq u hu => by
    have e : flat wq [q] = wq q := by simp [flat]
    rw [e] at hu
    simp [wq] at hu
    rcases hu with rfl | rfl
    · rfl
    · exact (h.rd q hq).one
  have HRow : Hid (∀ w', Below w.heap.size w w' → RowF wq w' a qs) := fun w' hb => h.row.below hb
  have HQ : Hid (∀ q ∈ qs, ∃ x n p, q.2 = .slice x n p) := fun q hq => by
    obtain ⟨x, p, e⟩ := (h.rd q hq).len
    exact ⟨x, _, p, e⟩
  obtain ⟨aa, ca, rfl⟩ := h.row.len
  obtain ⟨ab, cb, rfl⟩ := h.old.len
  have hcap := h.row.caps
  have hc1 : qs.length ≤ ca := hcap.2.1
  have hc2 : ca ≤ 9223372036854775807 := hcap.2.2
  obtain ⟨w1, hw1⟩ : ∃ w1, w1 = ((w.alloc (.cells (cc c (.slice aa qs.length ca) (.slice ab c.o.length cb)).toArray 59)).alloc (.cells #[.int .i64 0, .int .i64 0, .int .u64 0, .int .i64 0, .slice none 0 0, .slice none 0 0] 67)).alloc (.cells (cc c (.slice none 0 0) (.slice ab c.o.length cb)).toArray 67) := ⟨_, rfl⟩
  have HB1 : Hid (Below w.heap.size w w1) := by rw [hw1]; exact balloc (balloc2 _ _ _) _
  have hs1 : w1.heap.size = w.heap.size + 3 := by rw [hw1]; simp
  have X0 : Hid (Blk w1 w.heap.size 59 (cc c (.slice aa qs.length ca) (.slice ab c.o.length cb))) := by rw [hw1]; exact blk3_0 w (cc c (.slice aa qs.length ca) (.slice ab c.o.length cb)) [.int .i64 0, .int .i64 0, .int .u64 0, .int .i64 0, .slice none 0 0, .slice none 0 0] (cc c (.slice none 0 0) (.slice ab c.o.length cb)) 59 67 67
  have X1 : Hid (Blk w1 (w.heap.size + 1) 67 [.int .i64 0, .int .i64 0, .int .u64 0, .int .i64 0, .slice none 0 0, .slice none 0 0]) := by rw [hw1]; exact blk3_1 w (cc c (.slice aa qs.length ca) (.slice ab c.o.length cb)) [.int .i64 0, .int .i64 0, .int .u64 0, .int .i64 0, .slice none 0 0, .slice none 0 0] (cc c (.slice none 0 0) (.slice ab c.o.length cb)) 59 67 67
  have X2 : Hid (Blk w1 (w.heap.size + 2) 67 (cc c (.slice none 0 0) (.slice ab c.o.length cb))) := by rw [hw1]; exact blk3_2 w (cc c (.slice aa qs.length ca) (.slice ab c.o.length cb)) [.int .i64 0, .int .i64 0, .int .u64 0, .int .i64 0, .slice none 0 0, .slice none 0 0] (cc c (.slice none 0 0) (.slice ab c.o.length cb)) 59 67 67
  have HS1 : Hid (w1.heap.size = w.heap.size + 3) := hs1
  obtain ⟨n, hn⟩ : ∃ n, n = qs.length := ⟨_, rfl⟩
  have HN : Hid (n = qs.length) := hn
  obtain ⟨ck, cw, cp, cm, cws, co⟩ := c
  unfold cv cc at *
  dsimp only at *
  obtain ⟨no, hno⟩ : ∃ no, no = co.length := ⟨_, rfl⟩
  rw [← hn] at hc1 HRow HC X0 hw1 hlen ⊢
  rw [← hno] at HC X0 X2 hw1 ⊢
  have HW1 : Hid (w1 = ((w.alloc (.cells #[.int .i64 ck, .int .i64 cw, .int .u64 cp, .int .i64 cm, .slice aa n ca, .slice ab no cb] 59)).alloc (.cells #[.int .i64 0, .int .i64 0, .int .u64 0, .int .i64 0, .slice none 0 0, .slice none 0 0] 67)).alloc (.cells #[.int .i64 ck, .int .i64 cw, .int .u64 cp, .int .i64 cm, .slice none 0 0, .slice ab no cb] 67)) := hw1
  clear h hcap hn hno hw1 hs1 hone
  go_enter Tryz.func18, Tryz.ntmps18
  go_upto_region 2 with fail
  rw [← HW1.out]
  go_wp2
  go_loopw [4] (fun i wr => ∃ (k : Nat) (ov : Value), i = .int .i64 k ∧ k ≤ n ∧ Hid (Below w.heap.size w wr) ∧ Hid (Blk wr w.heap.size 59 [.int .i64 ck, .int .i64 cw, .int .u64 cp, .int .i64 cm, .slice aa n ca, .slice ab no cb]) ∧ Hid (Blk wr (w.heap.size + 1) 67 [.int .i64 0, .int .i64 0, .int .u64 0, .int .i64 0, .slice none 0 0, .slice none 0 0]) ∧ Hid (Blk wr (w.heap.size + 2) 67 [.int .i64 ck, .int .i64 cw, .int .u64 cp, .int .i64 cm, ov, .slice ab no cb]) ∧ Hid (wr.ownsRow 0 82 2 ov (qs.take k).length (flat wq (qs.take k))) ∧ Hid (∀ j, ov.ownBlock = some j → w.heap.size + 3 ≤ j)) (fun i _ => n - (intOf i).toNat)
  case atStart => exact ⟨0, .slice none 0 0, rfl, by omega, HB1, X0, X1, X2, World.ownsRow_nil _ _ _ _, (fun j hj => by cases hj)⟩
  case round =>
    obtain ⟨k, ov, rfl, hk, HB, Y0, Y1, Y2, HO, HNw⟩ := hrel
    have hkq : (qs.take k).length = k := by rw [List.length_take]; have := HN.out; omega
    have y4 := Y0.out.cell 4 _ rfl
    by_cases hki : k < n
    · obtain ⟨q, hq⟩ : ∃ q, qs[k]? = some q := ⟨_, List.getElem?_eq_getElem (by have := HN.out; omega)⟩
      have HTk : Hid (qs.take (k + 1) = qs.take k ++ [q]) := (show _ = _ by
        have hk' := List.getElem?_eq_some_iff.1 hq
        rw [List.take_succ_eq_append_getElem hk'.1, hk'.2])
      obtain ⟨g, off, ea, hr⟩ := (HRow.out wr HB.out).at wq_len hq
      obtain ⟨g', off', ea', hr'⟩ := (HRow.out w (Below.refl _ _)).at wq_len hq
      have hg : g < w.heap.size := by
        rw [ea] at ea'
        cases ea'
        exact World.block_lt_of_cell? w _ (hr' 0 _ rfl)
      subst ea
      have e0 := hr 0 _ rfl
      have e1 := hr 1 _ rfl
      simp only [Nat.add_zero] at e0
      have HO1 : Hid (∀ u ∈ flat wq [q], u.oneCell' = true) := HOne.out q (List.mem_of_getElem? hq)
      have HRq : Hid (∀ w' : World, RowF wq (w'.alloc (.cells (wq q).toArray 82)) (.slice (some ⟨w'.heap.size, 0, none⟩) 1 1) [q]) := fun w' => rowF_one w' q 82
      obtain ⟨xq, nq, pq, hq2⟩ := HQ.out q (List.mem_of_getElem? hq)
      obtain ⟨⟨qw, qb⟩, qv⟩ := q
      dsimp only at hq2
      subst hq2
      obtain ⟨ao, co2, hov, hcov⟩ := slice_of_own HO.out
      subst hov
      rw [hkq] at HO HNw Y2
      obtain ⟨B, hB⟩ : ∃ B, B = w.heap.size + 3 := ⟨_, rfl⟩
      have HBs : Hid (B ≤ wr.heap.size) := by rw [hB]; exact (show _ ≤ _ by have := Y2.out.lt; omega)
      have ne : Nonempty (WIn (fun w' => Below B wr w')) := ⟨⟨wr, Below.refl _ _⟩⟩
      have z0 := fun z : WIn (fun w' => Below B wr w') => (z.ok.cell (p := ⟨w.heap.size, 4, none⟩) (show w.heap.size < B by omega)).trans (Y0.out.cell 4 _ rfl)
      have z2 := fun z : WIn (fun w' => Below B wr w') => (z.ok.cell (p := ⟨w.heap.size + 2, 4, none⟩) (show w.heap.size + 2 < B by omega)).trans (Y2.out.cell 4 _ rfl)
      have z3 := fun z : WIn (fun w' => Below B wr w') => (z.ok.cell (p := ⟨g, off + k * 2, none⟩) (show g < B by omega)).trans e0
      have z4 := fun z : WIn (fun w' => Below B wr w') => (z.ok.cell (p := ⟨g, off + k * 2 + 1, none⟩) (show g < B by omega)).trans e1
      have HD : Hid (Below B wr wr.drew) := (show Below _ _ _ from (Below.refl _ _).drew)
      have HOd : Hid (wr.drew.ownsRow 0 82 2 (.slice ao k co2) k (flat wq (qs.take k))) := HO.out
      have HFin : Hid (∀ w5 v5, Below B wr w5 → w5.ownsRow 0 82 2 v5 (qs.take k ++ [((⟨qw, qb⟩ : Wp), (Value.slice xq nq pq))]).length (flat wq (qs.take k ++ [((⟨qw, qb⟩ : Wp), (Value.slice xq nq pq))])) → (∀ j, v5.ownBlock = some j → B ≤ j) →
          Below w.heap.size w (w5.setCell ⟨w.heap.size + 2, 4, none⟩ v5) ∧ Blk (w5.setCell ⟨w.heap.size + 2, 4, none⟩ v5) w.heap.size 59 [.int .i64 ck, .int .i64 cw, .int .u64 cp, .int .i64 cm, .slice (some ⟨g, off, none⟩) n ca, .slice ab no cb] ∧ Blk (w5.setCell ⟨w.heap.size + 2, 4, none⟩ v5) (w.heap.size + 1) 67 [.int .i64 0, .int .i64 0, .int .u64 0, .int .i64 0, .slice none 0 0, .slice none 0 0] ∧ Blk (w5.setCell ⟨w.heap.size + 2, 4, none⟩ v5) (w.heap.size + 2) 67 [.int .i64 ck, .int .i64 cw, .int .u64 cp, .int .i64 cm, v5, .slice ab no cb] ∧ (w5.setCell ⟨w.heap.size + 2, 4, none⟩ v5).ownsRow 0 82 2 v5 (qs.take (k + 1)).length (flat wq (qs.take (k + 1))) ∧ (∀ j, v5.ownBlock = some j → w.heap.size + 3 ≤ j)) := fun w5 v5 h5 ho hn5 => by
        have hY2 := Y2.out.block (h5.block (w.heap.size + 2) (by omega))
        refine ⟨(HB.out.trans (h5.mono (by omega))).setCell (by simp) _, (Y0.out.block (h5.block w.heap.size (by omega))).other _ _ (by omega), (Y1.out.block (h5.block (w.heap.size + 1) (by omega))).other _ _ (by omega), hY2.set 4 v5, ?_, fun j hj => by have := hn5 j hj; omega⟩
        rw [HTk.out]
        exact ownsRow_block ho (fun j hj => Below.heap_setCell _ _ _ _ (by have := hn5 j hj; simp; omega))
      have HRq2 : Hid (∀ w' : World, RowF wq (w'.alloc (.cells #[.int .i64 qw, .slice xq nq pq] 82)) (.slice (some ⟨w'.heap.size, 0, none⟩) 1 1) [((⟨qw, qb⟩ : Wp), (Value.slice xq nq pq))]) := HRq
      have HFz : Hid (∀ w5, Below B wr w5 → w5.cell? ⟨w.heap.size + 2, 4, none⟩ = some (.slice ao k co2) ∧ w5.frozen? ⟨w.heap.size + 2, 4, none⟩ = false) := fun w5 h5 =>
        have hY2 := Y2.out.block (h5.block (w.heap.size + 2) (by omega))
        ⟨hY2.cell 4 _ rfl, hY2.frozen 4⟩
      have HNw2 : Hid (∀ j, (Value.slice ao k co2).ownBlock = some j → B ≤ j) := fun j hj => by have := HNw.out j hj; omega
      clear hr hr' ea' hq e0 e1 HRq hB
      go_upto_region 5 with fail
      refine wp_region_treeZ (C := fun w' => ∃ z : WIn (fun w' => Below B wr w'), w' = z.w) 18 (.still 0 (.still 1 (.still 2 (.still 3 (.still 4 (.still 5 (.still 6 (.still 7 (.still 8 (.still 9 (.still 10 (.still 11 (.still 12 (.still 13 (.still 14 (.one 15 (.one 16 (.still 17 .done)))))))))))))))))) rfl (by kernel_rfl) (by kernel_rfl) ⟨⟨wr.drew, HD.out⟩, rfl⟩ ?_
      iterate 15 (refine tree_still rfl rfl ?_; go_big_quiet_step (fail); refine wpQuiet_nil ?_)
      refine tree_one rfl rfl ?_
      go_simp
      have HD2 : Hid (Below B wr (wr.drew.alloc (.cells #[.int .i64 qw, .slice xq nq pq] 82))) := HD.out.alloc HBs.out _
      have HOd2 : Hid ((wr.drew.alloc (.cells #[.int .i64 qw, .slice xq nq pq] 82)).ownsRow 0 82 2 (.slice ao k co2) (qs.take k).length (flat wq (qs.take k))) := by rw [hkq]; exact HOd.out.alloc _
      refine ⟨⟨⟨_, HD2.out⟩, rfl⟩, ?_⟩
      go_simp
      refine tree_one rfl rfl ?_
      refine wp_of_list rfl ?_
      refine wpList_append_rows ty40 wq_len (by omega) rfl (.tmp 24) (.tmp 38) rfl _ (qs.take k) rfl HOd2.out _ [((⟨qw, qb⟩ : Wp), (Value.slice xq nq pq))] rfl (HRq2.out wr.drew) HO1.out (by simp; omega) ?_
      intro v5 w5 k1 k2 k3
      have hb5 : Below B wr w5 := HD2.out.grown k2 (Nat.le_trans HBs.out (by simp)) (fun j hj => HNw2.out j hj)
      have hn5 : ∀ j, v5.ownBlock = some j → B ≤ j := fun j hj => by
        rcases k3 j hj with r | r
        · exact HNw2.out j r
        · have := HBs.out; simp at r; omega
      obtain ⟨a5, q5, hv5, hq5⟩ := slice_of_own k1
      have HF5 := HFin.out w5 v5 hb5 k1 hn5
      have hlz : (qs.take k ++ [((⟨qw, qb⟩ : Wp), (Value.slice xq nq pq))]).length = k + 1 := by rw [List.length_append, hkq]; rfl
      rw [hlz] at hv5
      subst hv5
      obtain ⟨f1, f2, f3, f4, f5, f6⟩ := HF5
      have G1 : Hid _ := f1
      have HF1 : Hid (Below w.heap.size w (w5.setCell ⟨w.heap.size + 2, 4, none⟩ (.slice a5 (k + 1) q5))) := f1
      have HF2 : Hid (Blk (w5.setCell ⟨w.heap.size + 2, 4, none⟩ (.slice a5 (k + 1) q5)) w.heap.size 59 [.int .i64 ck, .int .i64 cw, .int .u64 cp, .int .i64 cm, .slice (some ⟨g, off, none⟩) n ca, .slice ab no cb]) := f2
      have HF3 : Hid (Blk (w5.setCell ⟨w.heap.size + 2, 4, none⟩ (.slice a5 (k + 1) q5)) (w.heap.size + 1) 67 [.int .i64 0, .int .i64 0, .int .u64 0, .int .i64 0, .slice none 0 0, .slice none 0 0]) := f3
      have HF4 : Hid (Blk (w5.setCell ⟨w.heap.size + 2, 4, none⟩ (.slice a5 (k + 1) q5)) (w.heap.size + 2) 67 [.int .i64 ck, .int .i64 cw, .int .u64 cp, .int .i64 cm, .slice a5 (k + 1) q5, .slice ab no cb]) := f4
      have HF5 : Hid ((w5.setCell ⟨w.heap.size + 2, 4, none⟩ (.slice a5 (k + 1) q5)).ownsRow 0 82 2 (.slice a5 (k + 1) q5) (qs.take (k + 1)).length (flat wq (qs.take (k + 1)))) := f5
      have HF6 : Hid (∀ j, (Value.slice a5 (k + 1) q5).ownBlock = some j → w.heap.size + 3 ≤ j) := f6
      have l0 := (HFz.out w5 hb5).1
      have l1 := (HFz.out w5 hb5).2
      clear k1 k2 k3 hq5 f1 f2 f3 f4 f5 f6 G1
      refine ⟨rfl, ⟨⟨_, hb5⟩, rfl⟩, ?_⟩
      go_simp
      refine tree_still rfl rfl ?_
      go_big_quiet_step (fail)
      refine wpQuiet_nil ?_
      refine tree_done ?_
      refine ⟨rfl, ?_⟩
      go_simp
      clear z0 z2 z3 z4 ne hkq
      go_wp2
      go_roundw
      case rel => exact ⟨k + 1, _, by go_num, by omega, HF1, HF2, HF3, HF4, HF5, HF6⟩
      case measure => simp [intOf]; omega
    · have hkn : k = n := by omega
      have hall : qs.take k = qs := List.take_of_length_le (by have := HN.out; omega)
      obtain ⟨ao, co2, hov, hcov⟩ := slice_of_own HO.out
      subst hov
      have HR : Hid (RowF wq wr (.slice ao (qs.take k).length co2) qs) := (by
        have := rowF_own wq_len HO.out
        rw [hall] at this ⊢
        exact this)
      have HNb : Hid (∀ j, (Value.slice ao (qs.take k).length co2).ownBlock = some j → w.heap.size + 3 ≤ j) := HNw.out
      rw [hkq] at HR HNb Y2
      have HKey : Hid (∀ W, Below w.heap.size w W → RowF wq W (.slice ao k co2) qs → CgAt W ⟨ck, cw, cp, cm, cws, co⟩ (.slice ao k co2) (.slice ab no cb) qs) := fun W hW hr =>
        have hC := HC.out W hW
        ⟨hr, hC.rd, hC.ok, hC.ws, hC.old, hC.k, hC.w, hC.p, hC.l⟩
      have u0 := Y2.out.cell 0 _ rfl; have u1 := Y2.out.cell 1 _ rfl; have u2 := Y2.out.cell 2 _ rfl; have u3 := Y2.out.cell 3 _ rfl; have u4 := Y2.out.cell 4 _ rfl; have u5 := Y2.out.cell 5 _ rfl
      have v0 := Y1.out.cell 0 _ rfl; have v1 := Y1.out.cell 1 _ rfl; have v2 := Y1.out.cell 2 _ rfl; have v3 := Y1.out.cell 3 _ rfl; have v4 := Y1.out.cell 4 _ rfl; have v5 := Y1.out.cell 5 _ rfl
      have x0 := Y1.out.frozen 0; have x1 := Y1.out.frozen 1; have x2 := Y1.out.frozen 2; have x3 := Y1.out.frozen 3; have x4 := Y1.out.frozen 4; have x5 := Y1.out.frozen 5
      clear hall hcov HO HNw hkq
      go_wp2
      refine bodyPost_ret (v := .agg #[.int .i64 ck, .int .i64 cw, .int .u64 cp, .int .i64 cm, .slice ao k co2, .slice ab no cb]) ?_ rfl ⟨.slice ao k co2, rfl, ?_, ?_⟩
      · rw [results_cell1 rfl]
        go_simp
      · refine HKey.out _ ?_ ?_
        · iterate 6 refine Below.setCell ?_ (by simp) _
          exact HB.out
        refine HR.out.blocks fun j hj hlt => ?_
        have := HNb.out j hj
        iterate 6 rw [Below.heap_setCell _ _ _ _ (by simp; omega)]
      · iterate 6 refine Below.setCell ?_ (by simp) _
        exact HB.out
end
end Go.Proofs.YtkoeocghoabmbaaGreat
