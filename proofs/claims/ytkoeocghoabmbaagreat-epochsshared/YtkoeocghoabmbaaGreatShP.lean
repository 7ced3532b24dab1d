/-
  Epochs, by numbers alone: what Begin tells members, what a ring learns of it, and what it knows of epochs ahead.
-/
import Derived.Test.YtkoeocghoabmbaaGreatDoo
import Derived.Test.YtkoeocghoabmbaaGreatAlw
namespace Go.Proofs.YtkoeocghoabmbaaGreat
set_option linter.unusedVariables false
set_option linter.unusedSimpArgs false
set_option synthInstance.maxSize 20000
set_option maxHeartbeats 2000000
set_option maxRecDepth 20000
open Go.RowKit Go.Maps
theorem invLe {G : Gd} {n m n' m' : Nat} (h : Inv G n m) (hn : n ≤ n') (hm : m ≤ m') : Inv G n' m' := ⟨⟨h.ok.ora.le hn, h.ok.mok, Nat.le_trans h.ok.len hm, h.ok.pos, h.ok.mem, h.ok.ps, h.ok.last⟩, h.ts, h.km, h.rel, h.who⟩
theorem find_box {S : St} {h : Int} (hh : U64 h) (z : Nat) : S.find (boxOf h z) = S.at h := by
  unfold St.find
  rw [if_pos (by rw [boxOf_length]; omega)]
  unfold boxOf
  rw [ofBe8_be8 h _ hh]
theorem box_own {h : Int} (hh : U64 h) (z : Nat) : boxOf h z = boxOf (ofBe8 (boxOf h z)) z := by
  unfold boxOf
  rw [ofBe8_be8 h _ hh]
theorem ofBe8_self {h : Int} (hh : U64 h) : ofBe8 (be8 h) = h := by
  have := ofBe8_be8 h [] hh
  rwa [List.append_nil] at this
theorem unwrap_box {S : St} {g s s' k p : Int} (hg : U64 g) (h : S.at g = some (.wrap s' k p)) : S.unwrap s (boxOf g 8) = if s' = s then (k, 0) else (0, 11) := by
  unfold St.unwrap
  rw [find_box hg, h]
  show (if boxOf g 8 = boxOf (ofBe8 (boxOf g 8)) 8 then _ else _) = _
  rw [if_pos (box_own hg 8)]
theorem zeros_be8 (x : Int) : zerosOf (be8 x) = 16 := by
  unfold zerosOf
  rw [be8_length]
  rfl
theorem ahead_box {S : St} {g k last : Int} {e : Nat} (hg : U64 g) (hl : U64 last) (h : S.at g = some (.seal k (form e) (be8 last))) : aheadM S k e (boxOf g 16) = last := by
  have ho : S.open k (form e) (boxOf g 16) = (be8 last, 0) := by
    unfold St.open
    rw [find_box hg, h]
    show (if boxOf g 16 = boxOf (ofBe8 (boxOf g 16)) (zerosOf (be8 last)) then (if k = k then (if form e = form e then _ else _) else _) else _) = _
    rw [zeros_be8, if_pos (box_own hg 16), if_pos rfl, if_pos rfl]
  unfold aheadM
  rw [ho, if_pos ⟨rfl, be8_length last⟩]
  exact ofBe8_self hl
def Keep (S S' : St) : Prop := ∀ g x, S.at g = some x → S'.at g = some x
theorem Keep.refl (S : St) : Keep S S := fun _ _ h => h
theorem Keep.trans {S S' S'' : St} (h : Keep S S') (h' : Keep S' S'') : Keep S S'' := fun g x hg => h' g x (h g x hg)
theorem keep_put {S : St} {n : Nat} (h : Ora S n) (hn : n ≤ 90000) (x : What) : Keep S (S.put x) := fun g y hg => at_put_old h.good (by have := h.len; omega) hg
/-! ### The wraps -/
theorem wrap_pubE {S : St} {p k s : Int} (hp : S.at p = some (.pub s)) (hk : S.at k = some .key) : S.wrap p k = ((boxOf S.fresh 8, 0), S.put (.wrap s k p)) := by
  unfold St.wrap
  rw [hp]
  show (if S.at k = some .key then _ else _) = _
  rw [if_pos hk]
theorem wrapF_all {key : Int} (ss : Int → Int) : ∀ (l : List Mb) {S : St} {n : Nat}, Ora S n → n + l.length ≤ 80000 → S.at key = some .key → (∀ m ∈ l, S.at m.p = some (.pub (ss m.w))) →
    (wrapF key l S).2.2 = 0 ∧ (wrapF key l S).2.1.map (·.w) = l.map (·.w) ∧ ∀ x ∈ (wrapF key l S).2.1, ∃ g p, U64 g ∧ x.b = boxOf g 8 ∧ (wrapF key l S).1.at g = some (.wrap (ss x.w) key p)
  | [], S, n, h, hn, hk, hp => ⟨rfl, rfl, fun x hx => by cases hx⟩
  | m :: l, S, n, h, hn, hk, hp => by
    simp only [List.length_cons] at hn
    have hN : S.rows.length < 1000000000 := by have := h.len; omega
    have hw := wrap_pubE (hp m (by simp)) hk
    have h1 := h.wrap (by omega) m.p key
    have hkp : Keep S (S.wrap m.p key).2 := fun g x hg => wrap_keeps h (by omega) m.p key hg
    obtain ⟨i1, i2, i3⟩ := wrapF_all ss l h1 (by omega) (hkp _ _ hk) (fun x hx => hkp _ _ (hp x (by simp [hx])))
    have i4 := (wrapF_ora (key := key) l h1 (by omega)).2
    have e0 : (S.wrap m.p key).1.2 = 0 := by rw [hw]
    have eq : wrapF key (m :: l) S = ((wrapF key l (S.wrap m.p key).2).1, ⟨m.w, (S.wrap m.p key).1.1⟩ :: (wrapF key l (S.wrap m.p key).2).2.1, 0) := by
      rw [wrapF, if_pos e0, if_pos i1]
    rw [eq]
    refine ⟨rfl, by simp only [List.map_cons]; rw [i2], fun x hx => ?_⟩
    rcases List.mem_cons.1 hx with e | e
    · subst e
      refine ⟨S.fresh, m.p, (fresh_ok h.good hN).2.2.1, by rw [hw], i4 _ _ ?_⟩
      rw [hw]
      exact at_put_new h.good hN _
    · exact i3 x e
/-! ### Begin -/
structure BgOk (S : St) (l : List Mb) (e last : Int) (ss : Int → Int) : Prop where
  k : (beginM S l e last).k = 0
  key : (beginM S l e last).key = S.fresh
  keep : Keep S (beginM S l e last).S
  at' : (beginM S l e last).S.at S.fresh = some .key
  whos : (beginM S l e last).ws.map (·.w) = (nowM l).map (·.w)
  wraps : ∀ x ∈ (beginM S l e last).ws, ∃ g p, U64 g ∧ x.b = boxOf g 8 ∧ (beginM S l e last).S.at g = some (.wrap (ss x.w) S.fresh p)
  old0 : e = -1 → (beginM S l e last).o = []
  old1 : e ≠ -1 → ∃ g, U64 g ∧ (beginM S l e last).o = boxOf g 16 ∧ (beginM S l e last).S.at g = some (.seal S.fresh (form (e + 1).toNat) (be8 last))
theorem begin_ok {S : St} {n : Nat} {l : List Mb} {e last : Int} {ss : Int → Int} (h : Ora S n) (hn : n + l.length + 5 ≤ 80000) (hl : nowM l ≠ []) (hp : ∀ m ∈ l, S.at m.p = some (.pub (ss m.w))) : BgOk S l e last ss := by
  have hN : S.rows.length < 1000000000 := by have := h.len; omega
  have hnl : (nowM l).length ≤ l.length := by unfold nowM; exact List.length_filter_le _ _
  have hm : ∀ m ∈ nowM l, m ∈ l := fun m hm => (List.mem_filter.1 hm).1
  have h1 := h.key (by omega)
  have k1 : Keep S (S.put .key) := keep_put h (by omega) _
  have a1 : (S.put .key).at S.fresh = some .key := at_put_new h.good hN _
  obtain ⟨w1, w2, w3⟩ := wrapF_all ss (nowM l) h1 (by omega) a1 (fun m hm' => k1 _ _ (hp m (hm m hm')))
  obtain ⟨o1, o2⟩ := wrapF_ora (key := S.fresh) (nowM l) h1 (by omega)
  have hb : beginM S l e last = ⟨0, S.fresh, (wrapF S.fresh (nowM l) (S.put .key)).2.1, (oldM (wrapF S.fresh (nowM l) (S.put .key)).1 S.fresh e last).1, (oldM (wrapF S.fresh (nowM l) (S.put .key)).1 S.fresh e last).2⟩ := by
    unfold beginM
    rw [if_neg hl, if_pos w1]
  generalize wrapF S.fresh (nowM l) (S.put .key) = W at *
  have a2 : W.1.at S.fresh = some .key := o2 _ _ a1
  have ko : Keep W.1 (oldM W.1 S.fresh e last).2 := by
    unfold oldM
    split
    · exact Keep.refl _
    · rw [seal_key a2]
      exact keep_put o1 (by omega) _
  have kk : Keep S (oldM W.1 S.fresh e last).2 := (k1.trans o2).trans ko
  refine ⟨by rw [hb], by rw [hb], by rw [hb]; exact kk, by rw [hb]; exact ko _ _ a2, by rw [hb]; exact w2, ?_, ?_, ?_⟩
  · rw [hb]
    intro x hx
    obtain ⟨g, p, h3, h4, h5⟩ := w3 x hx
    exact ⟨g, p, h3, h4, ko _ _ h5⟩
  · intro he
    rw [hb]
    dsimp only
    unfold oldM
    rw [if_pos he]
  · intro he
    rw [hb]
    dsimp only
    unfold oldM
    rw [if_neg he, seal_key a2]
    have hN2 : W.1.rows.length < 1000000000 := by have := o1.len; omega
    exact ⟨W.1.fresh, (fresh_ok o1.good hN2).2.2.1, rfl, at_put_new o1.good hN2 _⟩
/-! ### Apply, of what Begin told -/
theorem wsF_of : ∀ (ws : List Wp) (p : Option Int), (ws.map (·.w)).Pairwise (· < ·) → (∀ q, p = some q → ∀ x ∈ ws, q < x.w) → (∀ x ∈ ws, (0 ≤ x.w ∧ x.w ≤ 7) ∧ x.b.length = 16) → wsF p ws = true
  | [], p, _, _, _ => rfl
  | x :: ws, p, h1, h2, h3 => by
    rw [List.map_cons, List.pairwise_cons] at h1
    have h4 : stepB p x = true := by
      unfold stepB whoB
      have h5 := h3 x (by simp)
      rw [decide_eq_true h5.1, decide_eq_true h5.2]
      cases p with
      | none => rfl
      | some q =>
        have := h2 q rfl x (by simp)
        show decide (q < x.w) = true
        exact decide_eq_true this
    have h6 := wsF_of ws (some x.w) h1.2 (fun q hq y hy => by
      cases hq
      exact h1.1 _ (List.mem_map.2 ⟨y, hy, rfl⟩)) (fun y hy => h3 y (by simp [hy]))
    show (stepB p x && wsF (some x.w) ws) = true
    rw [h4, h6]
    rfl
theorem nowM_srt {l : List Mb} (h : Srt l) : Srt (nowM l) := by
  unfold Srt nowM at *
  exact h.sublist List.filter_sublist
theorem apply_begin {S : St} {M : Sm} {last : Int} {ss : Int → Int} (h : BgOk S M.l M.e last ss) (hM : MOk M) (hl : nowM M.l ≠ []) (hw : ∀ x ∈ M.l, 0 ≤ x.w ∧ x.w < 4) :
    rightB (beginM S M.l M.e last).c = true ∧ (beginM S M.l M.e last).c = ⟨3, 0, 0, 0, (beginM S M.l M.e last).ws, (beginM S M.l M.e last).o⟩ ∧ applyM M (beginM S M.l M.e last).c = if 19 ≤ M.e then (zsm, 2) else (⟨M.l, M.e + 1⟩, 0) := by
  have hc : (beginM S M.l M.e last).c = ⟨3, 0, 0, 0, (beginM S M.l M.e last).ws, (beginM S M.l M.e last).o⟩ := by
    unfold Bg.c
    rw [if_pos h.k]
  have hs := nowM_srt hM.srt
  have hp : ((nowM M.l).map (·.w)).Pairwise (· < ·) := by
    rw [List.pairwise_map]
    exact hs
  have hf : wsF none (beginM S M.l M.e last).ws = true := by
    refine wsF_of _ none (by rw [h.whos]; exact hp) (fun q hq => by cases hq) (fun x hx => ?_)
    obtain ⟨g, p, _, h2, _⟩ := h.wraps x hx
    have h3 : x.w ∈ (nowM M.l).map (·.w) := by
      rw [← h.whos]
      exact List.mem_map.2 ⟨x, hx, rfl⟩
    obtain ⟨m, h4, h5⟩ := List.mem_map.1 h3
    have h6 := hw m (List.mem_filter.1 h4).1
    refine ⟨by rw [← h5]; omega, by rw [h2, boxOf_length]⟩
  have hlen : (beginM S M.l M.e last).ws.length = (nowM M.l).length := by
    have := congrArg List.length h.whos
    rwa [List.length_map, List.length_map] at this
  have hpos : 0 < (beginM S M.l M.e last).ws.length := by
    rw [hlen]
    exact List.length_pos_iff.2 hl
  have ho : (beginM S M.l M.e last).o.length = if M.e = -1 then 0 else 24 := by
    by_cases he : M.e = -1
    · rw [h.old0 he, if_pos he]
      rfl
    · obtain ⟨g, _, h2, _⟩ := h.old1 he
      rw [h2, boxOf_length, if_neg he]
  have hr : rightB (beginM S M.l M.e last).c = true := by
    rw [hc]
    unfold rightB
    rw [if_neg (show ¬ (3 : Int) = 1 by decide), if_neg (show ¬ (3 : Int) = 2 by decide), if_pos rfl]
    have h1 : wsB (beginM S M.l M.e last).ws = true := by
      unfold wsB
      rw [hf, decide_eq_true hpos]
      rfl
    have h2 : oldB (beginM S M.l M.e last).o = true := by
      unfold oldB
      rw [ho]
      by_cases he : M.e = -1
      · rw [if_pos he]
        rfl
      · rw [if_neg he]
        rfl
    dsimp only
    rw [h1, h2]
    rfl
  refine ⟨hr, hc, ?_⟩
  have hk : turnK M (beginM S M.l M.e last).c = if 19 ≤ M.e then 2 else 0 := by
    unfold turnK
    rw [hc, if_neg (show ¬ (3 : Int) = 1 by decide), if_neg (show ¬ (3 : Int) = 2 by decide)]
    unfold begK
    by_cases h19 : 19 ≤ M.e
    · rw [if_pos h19, if_pos h19]
    · rw [if_neg h19, if_neg h19, if_pos]
      dsimp only
      rw [wrap_eq hf hs, decide_eq_true h.whos.symm, ho]
      by_cases he : M.e = -1
      · rw [if_pos he, decide_eq_true he]
        rfl
      · rw [if_neg he, decide_eq_false he]
        rfl
  unfold applyM
  rw [if_pos hr, hk]
  by_cases h19 : 19 ≤ M.e
  · rw [if_pos h19, if_pos h19, if_neg (by decide)]
  · rw [if_neg h19, if_neg h19, if_pos rfl]
    unfold turnS
    rw [if_neg (by rw [hc]; exact (by decide : ¬ (3 : Int) = 1)), if_neg (by rw [hc]; exact (by decide : ¬ (3 : Int) = 2))]
    have hb : begK M.l M.e (beginM S M.l M.e last).c = 0 := by
      have h5 := hk
      unfold turnK at h5
      rw [if_neg (by rw [hc]; exact (by decide : ¬ (3 : Int) = 1)), if_neg (by rw [hc]; exact (by decide : ¬ (3 : Int) = 2)), if_neg h19] at h5
      exact h5
    rw [if_pos hb]
/-! ### The rings -/
structure Hist (S : St) (K : List Int) (O : List (List Int)) : Prop where
  len : O.length = K.length
  key : ∀ h, h < K.length → S.at (K.getD h 0) = some .key
  old : ∀ h, h + 1 < K.length → ∃ g, U64 g ∧ O.getD (h + 1) [] = boxOf g 16 ∧ S.at g = some (.seal (K.getD (h + 1) 0) (form (h + 1)) (be8 (K.getD h 0)))
theorem Hist.keep {S S' : St} {K : List Int} {O : List (List Int)} (h : Hist S K O) (k : Keep S S') : Hist S' K O := ⟨h.len, fun i hi => k _ _ (h.key i hi), fun i hi => by
  obtain ⟨g, h1, h2, h3⟩ := h.old i hi
  exact ⟨g, h1, h2, k _ _ h3⟩⟩
theorem Hist.ne {S : St} {K : List Int} {O : List (List Int)} (h : Hist S K O) (hg : Good S) {i : Nat} (hi : i < K.length) : U64 (K.getD i 0) ∧ K.getD i 0 ≠ 0 := ⟨(at_ok hg (h.key i hi)).1, (at_ok hg (h.key i hi)).2.1⟩
structure Knows (K : List Int) (O : List (List Int)) (r : Rg) (m : Nat) : Prop where
  le : m ≤ K.length
  kl : r.ks.length = K.length
  ol : r.os.length = K.length
  ks : ∀ h, h < m → r.ks.getD h 0 = K.getD h 0
  no : ∀ h, m ≤ h → r.ks.getD h 0 = 0
  os : ∀ h, m ≤ h → r.os.getD h [] = O.getD h []
theorem backF_all {S : St} {K : List Int} {O os : List (List Int)} {m : Nat} (hH : Hist S K O) (hg : Good S) (ho : ∀ h, m ≤ h → os.getD h [] = O.getD h []) : ∀ (e : Nat) (ks : List Int), e < K.length → ks.length = K.length → ks.getD e 0 = K.getD e 0 → (∀ h, h < m → h ≤ e → ks.getD h 0 = K.getD h 0) → (∀ h, m ≤ h → h < e → ks.getD h 0 = 0) → ∀ h, h ≤ e → (backF S os e ks).getD h 0 = K.getD h 0
  | 0, ks, he, hl, h1, h2, h3, h, hh => by
    obtain rfl : h = 0 := by omega
    exact h1
  | e + 1, ks, he, hl, h1, h2, h3, h, hh => by
    have hne : ks.getD (e + 1) 0 ≠ 0 := by rw [h1]; exact (hH.ne hg he).2
    by_cases hm : m ≤ e
    · have h0 : ks.getD e 0 = 0 := h3 e hm (by omega)
      obtain ⟨g, g1, g2, g3⟩ := hH.old e he
      have ha : aheadM S (ks.getD (e + 1) 0) (e + 1) (os.getD (e + 1) []) = K.getD e 0 := by
        rw [h1, ho (e + 1) (by omega), g2]
        exact ahead_box g1 (hH.ne hg (by omega)).1 g3
      rw [backF_go hne h0, ha]
      have hx : (ks.set e (K.getD e 0)).getD e 0 = K.getD e 0 := by
        rw [List.getD_eq_getElem?_getD, List.getElem?_set_self (by omega)]
        rfl
      have hy : ∀ j, j ≠ e → (ks.set e (K.getD e 0)).getD j 0 = ks.getD j 0 := fun j hj => by
        rw [List.getD_eq_getElem?_getD, List.getElem?_set_ne (fun e => hj e.symm), ← List.getD_eq_getElem?_getD]
      by_cases hee : h = e + 1
      · subst hee
        rw [backF_keeps _ _ _ _ _ (by rw [hy _ (by omega)]; exact hne), hy _ (by omega)]
        exact h1
      · exact backF_all hH hg ho e _ (by omega) (by rw [List.length_set]; exact hl) hx (fun j hj hje => by
          rw [hy j (by omega)]
          exact h2 j hj (by omega)) (fun j hj hje => by
          rw [hy j (by omega)]
          exact h3 j hj (by omega)) h (by omega)
    · have hkn : ∀ j, j ≤ e → ks.getD j 0 = K.getD j 0 := fun j hj => h2 j (by omega) (by omega)
      have h4 : ks.getD e 0 ≠ 0 := by rw [hkn e (Nat.le_refl _)]; exact (hH.ne hg (by omega)).2
      rw [backF_no (fun h => h4 h.2)]
      by_cases hee : h = e + 1
      · rw [hee]
        exact h1
      · exact hkn h (by omega)
theorem getD_snocL {α : Type} {d : α} (l : List α) (x : α) (j : Nat) : (l ++ [x]).getD j d = if j < l.length then l.getD j d else if j = l.length then x else d := by
  by_cases h : j < l.length
  · rw [if_pos h, List.getD_eq_getElem?_getD, List.getD_eq_getElem?_getD, List.getElem?_append_left h]
  · rw [if_neg h]
    by_cases h2 : j = l.length
    · subst h2
      rw [if_pos rfl, List.getD_eq_getElem?_getD]
      simp
    · rw [if_neg h2, List.getD_eq_getElem?_getD, List.getElem?_eq_none (by simp; omega)]
      rfl
theorem getD_out {α : Type} {d : α} {l : List α} {j : Nat} (h : l.length ≤ j) : l.getD j d = d := by
  rw [List.getD_eq_getElem?_getD, List.getElem?_eq_none h]
  rfl
theorem learn_in {S : St} {K : List Int} {O : List (List Int)} {r : Rg} {m : Nat} {c : Cg} {x : Int} (hr : Knows K O r m) (hH : Hist S (K ++ [x]) (O ++ [c.o])) (hO : O.length = K.length) (hg : Good S) (hc : rightB c = true ∧ c.k = 3) (hl : K.length < 20) (hu : unwM S r.w r.s c.ws = (x, 0)) :
    (learnP S r c).2 = 0 ∧ Knows (K ++ [x]) (O ++ [c.o]) (learnP S r c).1 (K.length + 1) ∧ (learnP S r c).1.w = r.w ∧ (learnP S r c).1.s = r.s := by
  have hK : (K ++ [x]).length = K.length + 1 := by simp
  have hx : x ≠ 0 := by
    have := (hH.ne hg (i := K.length) (by rw [hK]; omega)).2
    rw [getD_snocL, if_neg (by omega), if_pos rfl] at this
    exact this
  unfold learnP
  rw [learnG_go hc (by rw [hr.kl]; omega), hu]
  dsimp only
  have hkl := hr.kl
  have hol := hr.ol
  have hle := hr.le
  refine ⟨rfl, ⟨Nat.le_of_eq hK.symm, by rw [backF_length, List.length_append, hkl, List.length_append], ?_, ?_, ?_, ?_⟩, rfl, rfl⟩
  · unfold struck
    split
    · simp [hol]
    · simp [hol]
  · intro h hh
    refine backF_all hH hg (m := m) (fun j hj => ?_) r.ks.length _ (by rw [hK, hkl]; omega) (by simp [hkl]) ?_ (fun j hj hje => ?_) (fun j hj hje => ?_) h (by rw [hkl]; omega)
    · rw [getD_snocL, getD_snocL, hol, hO]
      by_cases h1 : j < K.length
      · rw [if_pos h1, if_pos h1]
        exact hr.os j hj
      · rw [if_neg h1, if_neg h1]
    · rw [getD_snocL, getD_snocL, if_neg (by omega), if_pos rfl, hkl, if_neg (by omega), if_pos rfl]
    · rw [getD_snocL, getD_snocL, if_pos (by omega), if_pos (by omega)]
      exact hr.ks j hj
    · rw [getD_snocL, if_pos hje]
      exact hr.no j hj
  · intro h hh
    exact getD_out (by rw [backF_length, List.length_append, hkl]; simpa using hh)
  · intro h hh
    have e1 : (r.ks ++ [x]).getD ((r.ks ++ [x]).length - 1) 0 ≠ 0 := by
      rw [List.length_append]
      show (r.ks ++ [x]).getD (r.ks.length + 1 - 1) 0 ≠ 0
      rw [Nat.add_sub_cancel, getD_snoc]
      exact hx
    unfold struck
    rw [if_neg e1, getD_out (by simp [hol]; omega), getD_out (by simp [hO]; omega)]
theorem learn_out {S : St} {K : List Int} {O : List (List Int)} {r : Rg} {m : Nat} {c : Cg} (x : Int) (hr : Knows K O r m) (hO : O.length = K.length) (hc : rightB c = true ∧ c.k = 3) (hl : K.length < 20) (hu : unwM S r.w r.s c.ws = (0, 11)) :
    (learnP S r c).2 = 11 ∧ Knows (K ++ [x]) (O ++ [c.o]) (learnP S r c).1 m ∧ (learnP S r c).1.w = r.w ∧ (learnP S r c).1.s = r.s := by
  unfold learnP
  rw [learnG_go hc (by rw [hr.kl]; omega), hu]
  dsimp only
  have hkl := hr.kl
  have hol := hr.ol
  have hle := hr.le
  have e1 : (r.ks ++ [(0 : Int)]).getD ((r.ks ++ [(0 : Int)]).length - 1) 0 = 0 := by
    rw [List.length_append]
    show (r.ks ++ [(0 : Int)]).getD (r.ks.length + 1 - 1) 0 = 0
    rw [Nat.add_sub_cancel, getD_snoc]
  have e2 : backF S (r.os ++ [c.o]) r.ks.length (r.ks ++ [0]) = r.ks ++ [0] := backF_zero (getD_snoc _ _)
  rw [e2]
  unfold struck
  rw [if_pos e1]
  refine ⟨rfl, ⟨by simp; omega, by simp [hkl], by simp [hol], fun h hh => ?_, fun h hh => ?_, fun h hh => ?_⟩, rfl, rfl⟩
  · dsimp only
    rw [getD_snocL, getD_snocL, if_pos (by omega), if_pos (by omega)]
    exact hr.ks h hh
  · dsimp only
    rw [getD_snocL]
    by_cases h1 : h < r.ks.length
    · rw [if_pos h1]
      exact hr.no h hh
    · rw [if_neg h1]
      split <;> rfl
  · dsimp only
    rw [getD_snocL, getD_snocL, hol, hO]
    by_cases h1 : h < K.length
    · rw [if_pos h1, if_pos h1]
      exact hr.os h hh
    · rw [if_neg h1, if_neg h1]
/-! ### Who may open -/
theorem unw_in {S : St} {l : List Mb} {e last : Int} {ss : Int → Int} (h : BgOk S l e last ss) {n : Int} (hn : n ∈ (nowM l).map (·.w)) : unwM (beginM S l e last).S n (ss n) (beginM S l e last).ws = (S.fresh, 0) := by
  rw [← h.whos] at hn
  obtain ⟨y, hy, hyn⟩ := List.mem_map.1 hn
  unfold unwM
  cases hf : (beginM S l e last).ws.find? (fun x => decide (x.w = n)) with
  | none =>
    have := List.find?_eq_none.1 hf y hy
    simp [hyn] at this
  | some x =>
    have h1 := List.find?_some hf
    have h2 : x.w = n := by simpa using h1
    obtain ⟨g, p, g1, g2, g3⟩ := h.wraps x (List.mem_of_find?_eq_some hf)
    show (beginM S l e last).S.unwrap (ss n) x.b = _
    rw [g2, unwrap_box g1 g3, h2, if_pos rfl]
theorem unw_out {S : St} {l : List Mb} {e last : Int} {ss : Int → Int} (h : BgOk S l e last ss) {n : Int} (hn : n ∉ (nowM l).map (·.w)) (sec : Int) : unwM (beginM S l e last).S n sec (beginM S l e last).ws = (0, 11) := by
  rw [← h.whos] at hn
  unfold unwM
  cases hf : (beginM S l e last).ws.find? (fun x => decide (x.w = n)) with
  | none => rfl
  | some x =>
    have h1 := List.find?_some hf
    exact absurd (List.mem_map.2 ⟨x, List.mem_of_find?_eq_some hf, by simpa using h1⟩) hn
theorem Hist.next {S : St} {K : List Int} {O : List (List Int)} {l : List Mb} {e last : Int} {ss : Int → Int} (h : Hist S K O) (hb : BgOk S l e last ss) (he : e + 1 = K.length) (hl : K ≠ [] → last = K.getD (K.length - 1) 0) : Hist (beginM S l e last).S (K ++ [S.fresh]) (O ++ [(beginM S l e last).o]) := by
  have hlen := h.len
  refine ⟨by simp [hlen], fun i hi => ?_, fun i hi => ?_⟩
  · rw [getD_snocL]
    by_cases h1 : i < K.length
    · rw [if_pos h1]
      exact hb.keep _ _ (h.key i h1)
    · rw [if_neg h1, if_pos (by simp at hi; omega)]
      exact hb.at'
  · have hi' : i < K.length := by simpa using hi
    rw [getD_snocL, getD_snocL, getD_snocL, if_pos hi', hlen]
    by_cases h1 : i + 1 < K.length
    · rw [if_pos h1, if_pos h1]
      obtain ⟨g, g1, g2, g3⟩ := h.old i h1
      exact ⟨g, g1, g2, hb.keep _ _ g3⟩
    · have h2 : i + 1 = K.length := by omega
      rw [if_neg h1, if_neg h1, if_pos h2, if_pos h2]
      have hne : e ≠ -1 := by omega
      obtain ⟨g, g1, g2, g3⟩ := hb.old1 hne
      have e1 : (e + 1).toNat = i + 1 := by omega
      have e2 : last = K.getD i 0 := by
        rw [hl (fun e0 => by rw [e0] at hi'; simp at hi')]
        congr 1
        omega
      rw [e1] at g3
      exact ⟨g, g1, g2, by rw [← e2]; exact g3⟩
/-! ### The law's world, of Shared and Gone -/
structure Shr (A : Nat → Prop) (G : Gd) (n m : Nat) (K : List Int) (O : List (List Int)) : Prop where
  ok : GOk G n m
  inj : ∀ i j, i < 4 → j < 4 → G.ss i = G.ss j → i = j
  pub : ∀ i, i < 4 → G.S.at (G.ps i) = some (.pub (G.ss i))
  mem : ∀ x ∈ G.M.l, ∃ i : Nat, i < 4 ∧ x.w = i ∧ x.p = G.ps i
  fr : ∀ x ∈ G.M.l, x.f ≤ G.M.e + 1
  own : ∃ x ∈ G.M.l, x.w = 0 ∧ x.t = -1
  ep : G.M.e + 1 = K.length
  last : K ≠ [] → G.last = K.getD (K.length - 1) 0
  hist : Hist G.S K O
  rings : ∀ i, i < 4 → A i → ∃ j, Knows K O (G.P i) j
  who : ∀ i, i < 4 → A i → (G.P i).w = i ∧ (G.P i).s = G.ss i
def ssF (G : Gd) : Int → Int := fun w => G.ss w.toNat
theorem Shr.now {A : Nat → Prop} {G : Gd} {n m : Nat} {K : List Int} {O : List (List Int)} (h : Shr A G n m K O) : nowM G.M.l ≠ [] := by
  obtain ⟨x, h1, _, h3⟩ := h.own
  have : x ∈ nowM G.M.l := List.mem_filter.2 ⟨h1, by unfold on; rw [h3]; rfl⟩
  intro e
  rw [e] at this
  cases this
theorem Shr.begin {A : Nat → Prop} {G : Gd} {n m : Nat} {K : List Int} {O : List (List Int)} (h : Shr A G n m K O) (hn : n + m + 5 ≤ 80000) : BgOk G.S G.M.l G.M.e G.last (ssF G) := by
  refine begin_ok h.ok.ora (by have := h.ok.len; omega) h.now (fun x hx => ?_)
  obtain ⟨i, h1, h2, h3⟩ := h.mem x hx
  unfold ssF
  rw [h3, h2]
  exact h.pub i h1
theorem Shr.apply {A : Nat → Prop} {G : Gd} {n m : Nat} {K : List Int} {O : List (List Int)} (h : Shr A G n m K O) (hn : n + m + 5 ≤ 80000) : rightB (opB G).c = true ∧ (opB G).c = ⟨3, 0, 0, 0, (opB G).ws, (opB G).o⟩ ∧ applyM G.M (opB G).c = if 19 ≤ G.M.e then (zsm, 2) else (⟨G.M.l, G.M.e + 1⟩, 0) :=
  apply_begin (h.begin hn) h.ok.mok h.now (fun x hx => by
    obtain ⟨i, h1, h2, _⟩ := h.mem x hx
    omega)
def inB (l : List Mb) (n : Int) : Bool := match findM l n with
  | none => false
  | some m => on m
theorem inB_iff {l : List Mb} (hs : Srt l) {n : Int} : inB l n = true ↔ n ∈ (nowM l).map (·.w) := by
  unfold inB
  constructor
  · intro h
    cases hf : findM l n with
    | none => rw [hf] at h; cases h
    | some m =>
      rw [hf] at h
      obtain ⟨h1, h2⟩ := findM_some hf
      exact List.mem_map.2 ⟨m, List.mem_filter.2 ⟨h1, h⟩, h2⟩
  · intro h
    obtain ⟨m, h1, h2⟩ := List.mem_map.1 h
    obtain ⟨h3, h4⟩ := List.mem_filter.1 h1
    rw [← h2, findM_of hs h3]
    exact h4
def epG (G : Gd) (j : Nat) : Gd := { G with S := (opB G).S, last := (opB G).key, M := ⟨G.M.l, G.M.e + 1⟩, K := ⟨G.M.l, G.M.e + 1⟩, P := fun i => if i < j then (learnP (opB G).S (G.P i) (opB G).c).1 else G.P i }
theorem Shr.learn {A : Nat → Prop} {G : Gd} {n m : Nat} {K : List Int} {O : List (List Int)} (h : Shr A G n m K O) (hn : n + m + 5 ≤ 80000) (h19 : G.M.e < 19) {i : Nat} (hi : i < 4) (hA : A i) :
    (learnP (opB G).S (G.P i) (opB G).c).2 = (if inB G.M.l i = true then 0 else 11) ∧ (∃ j, Knows (K ++ [G.S.fresh]) (O ++ [(opB G).o]) (learnP (opB G).S (G.P i) (opB G).c).1 j ∧ (inB G.M.l i = true → j = K.length + 1) ∧ (inB G.M.l i = false → j ≤ K.length)) ∧ (learnP (opB G).S (G.P i) (opB G).c).1.w = i ∧ (learnP (opB G).S (G.P i) (opB G).c).1.s = G.ss i := by
  have hb := h.begin hn
  obtain ⟨a1, a2, _⟩ := h.apply hn
  obtain ⟨j, hj⟩ := h.rings i hi hA
  obtain ⟨w1, w2⟩ := h.who i hi hA
  have hH := h.hist.next hb h.ep h.last
  have hep := h.ep
  have ho : (opB G).c.o = (opB G).o := by rw [a2]
  have hws : (opB G).c.ws = (opB G).ws := by rw [a2]
  have hck : (opB G).c.k = 3 := by rw [a2]
  have hora := begin_ora h.ok.ora G.M.l G.M.e G.last (by have := h.ok.len; omega)
  have hs2 : ssF G i = G.ss i := by unfold ssF; simp
  cases hin : inB G.M.l i with
  | true =>
    have hu : unwM (opB G).S (G.P i).w (G.P i).s (opB G).c.ws = (G.S.fresh, 0) := by
      rw [hws, w1, w2, ← hs2]
      exact unw_in hb ((inB_iff h.ok.mok.srt).1 hin)
    have hl := learn_in (S := (opB G).S) (x := G.S.fresh) hj (by rw [ho]; exact hH) h.hist.len hora.good ⟨a1, hck⟩ (by omega) hu
    rw [ho] at hl
    exact ⟨by rw [if_pos rfl]; exact hl.1, ⟨_, hl.2.1, fun _ => rfl, fun e => by cases e⟩, by rw [hl.2.2.1]; exact w1, by rw [hl.2.2.2]; exact w2⟩
  | false =>
    have hu : unwM (opB G).S (G.P i).w (G.P i).s (opB G).c.ws = (0, 11) := by
      rw [hws, w1]
      exact unw_out hb (fun e => by rw [(inB_iff h.ok.mok.srt).2 e] at hin; cases hin) _
    have hl := learn_out (S := (opB G).S) (c := (opB G).c) G.S.fresh hj h.hist.len ⟨a1, hck⟩ (by omega) hu
    rw [ho] at hl
    exact ⟨by rw [if_neg (by simp)]; exact hl.1, ⟨_, hl.2.1, fun e => (by cases e), fun _ => hj.le⟩, by rw [hl.2.2.1]; exact w1, by rw [hl.2.2.2]; exact w2⟩
theorem Shr.epoch {A : Nat → Prop} {G : Gd} {n m : Nat} {K : List Int} {O : List (List Int)} (h : Shr A G n m K O) (hn : n + m + 5 ≤ 80000) (h19 : G.M.e < 19) : Shr A (epG G 4) (n + m + 3) m (K ++ [G.S.fresh]) (O ++ [(opB G).o]) := by
  have hb := h.begin hn
  have hkey : (opB G).key = G.S.fresh := hb.key
  have he := h.ok.mok.e
  have hora := begin_ora h.ok.ora G.M.l G.M.e G.last (by have := h.ok.len; omega)
  refine ⟨⟨hora.le (by have := h.ok.len; omega), ⟨by unfold EOk at *; dsimp only [epG]; omega, h.ok.mok.srt⟩, h.ok.len, h.ok.pos, h.ok.mem, h.ok.ps, begin_key h.ok.ora _ _ _ (by omega)⟩, h.inj, fun i hi => hb.keep _ _ (h.pub i hi), h.mem, fun x hx => ?_, h.own, ?_, fun _ => ?_, h.hist.next hb h.ep h.last, fun i hi hA => ?_, fun i hi hA => ?_⟩
  · have := h.fr x hx
    dsimp only [epG]
    omega
  · have := h.ep
    dsimp only [epG]
    simp
    omega
  · show (opB G).key = _
    rw [hkey, getD_snocL]
    simp
  · obtain ⟨_, ⟨j, h1, _⟩, _⟩ := h.learn hn h19 hi hA
    refine ⟨j, ?_⟩
    show Knows _ _ (if i < 4 then _ else _) j
    rw [if_pos hi]
    exact h1
  · obtain ⟨_, _, h2⟩ := h.learn hn h19 hi hA
    show (if i < 4 then _ else _ : Rg).w = i ∧ (if i < 4 then _ else _ : Rg).s = _
    rw [if_pos hi]
    exact h2
/-! ### Its start, and invitations and revocations -/
theorem at_fresh {S : St} {n : Nat} (h : Ora S n) (hn : n ≤ 90000) : S.at S.fresh = none := by
  cases hf : S.at S.fresh with
  | none => rfl
  | some x =>
    have h1 := at_some hf
    exact absurd (List.mem_map.2 ⟨_, h1, rfl⟩) (fresh_ok h.good (by have := h.len; omega)).2.1
theorem ssN_lt {S : St} (h : Ora S 0) {i j : Nat} (hi : i < j) (hj : j ≤ 50) : ssN S i ≠ ssN S j := fun e => by
  have h1 := (at_pairN h j (by omega) i hi).1
  rw [e] at h1
  unfold ssN at h1
  rw [at_fresh (pairN_ora h j (by omega)) (by omega)] at h1
  cases h1
theorem gd0_shr {ds : List Int} (h : ∀ d ∈ ds, U64 d) (A : Nat → Prop) (ob rr : Nat) (rb mb : Nat → Nat) : Shr A (gd0 ⟨ds, []⟩ ob rr rb mb) 8 1 [] [] := by
  have hi := gd0_inv h ob rr rb mb
  refine ⟨hi.ok, fun i j hi' hj' e => ?_, fun i hi' => (at_pairN (ora0 h) 4 (by omega) i hi').2, fun x hx => ?_, fun x hx => ?_, ⟨_, List.mem_singleton.2 rfl, rfl, rfl⟩, rfl, fun e => absurd rfl e, ⟨rfl, fun i hi => absurd hi (Nat.not_lt_zero i), fun i hi => absurd hi (Nat.not_lt_zero _)⟩, fun i hi' _ => ⟨0, Nat.le_refl _, rfl, rfl, fun j hj => absurd hj (Nat.not_lt_zero j), fun j hj => rfl, fun j hj => rfl⟩, fun i hi' _ => ⟨rfl, rfl⟩⟩
  · rcases Nat.lt_trichotomy i j with e2 | e2 | e2
    · exact absurd e (ssN_lt (ora0 h) e2 (by omega))
    · exact e2
    · exact absurd e.symm (ssN_lt (ora0 h) e2 (by omega))
  · simp [gd0] at hx
    subst hx
    exact ⟨0, by omega, rfl, rfl⟩
  · simp [gd0] at hx
    subst hx
    show (0 : Int) ≤ -1 + 1
    omega
theorem doM_app {G : Gd} {x : Ope} (hk : x.k = 0 ∨ x.k = 2) : doM G x = appG G (opC G x) := by
  have hc : (opC G x).k ≠ 3 := by
    unfold opC
    rcases hk with e | e <;> rw [e] <;> simp
  unfold Proofs.YtkoeocghoabmbaaGreat.doM
  rw [if_neg (by rcases hk with e | e <;> rw [e] <;> decide)]
  unfold doA
  rw [if_pos (.inl hc)]
theorem Shr.app {A : Nat → Prop} {G : Gd} {n m : Nat} {K : List Int} {O : List (List Int)} (h : Shr A G n m K O) {c : Cg} (hp : U64 c.p) (hw : I64 c.w) (hc : (c.k = 1 ∧ ∃ i : Nat, i < 4 ∧ c.w = i ∧ c.p = G.ps i) ∨ c.k = 2) : Shr A (appG G c) n (m + 1) K O := by
  have hok := h.ok.app hp hw
  unfold appG at *
  by_cases h0 : (applyM G.M c).2 = 0
  · rw [if_pos h0] at hok ⊢
    rcases apply_cases h0 with ⟨h1, _, h2, h3⟩ | ⟨h1, hr, y, h2, h4, h3⟩ | ⟨h1, _⟩
    · rw [h3] at hok ⊢
      obtain ⟨i, i1, i2, i3⟩ : ∃ i : Nat, i < 4 ∧ c.w = i ∧ c.p = G.ps i := by
        rcases hc with ⟨_, h5⟩ | h5
        · exact h5
        · omega
      refine ⟨hok, h.inj, h.pub, fun x hx => ?_, fun x hx => ?_, ?_, h.ep, h.last, h.hist, h.rings, h.who⟩
      · rcases (insL_mem _ _ _).1 hx with e | e
        · rw [e]
          exact ⟨i, i1, i2, i3⟩
        · exact h.mem x e
      · rcases (insL_mem _ _ _).1 hx with e | e
        · rw [e]
          exact Int.le_refl _
        · exact h.fr x e
      · obtain ⟨x, x1, x2, x3⟩ := h.own
        exact ⟨x, (insL_mem _ _ _).2 (.inr x1), x2, x3⟩
    · rw [h3] at hok ⊢
      have hw0 : c.w ≠ 0 := by
        unfold rightB at hr
        rw [if_neg (by omega), if_pos h1] at hr
        simp at hr
        exact hr.1.1.1.2
      refine ⟨hok, h.inj, h.pub, fun x hx => ?_, fun x hx => ?_, ?_, h.ep, h.last, h.hist, h.rings, h.who⟩
      · rcases setW_mem hx with e | ⟨z, z1, _, z3⟩
        · exact h.mem x e
        · rw [z3]
          exact h.mem z z1
      · rcases setW_mem hx with e | ⟨z, z1, _, z3⟩
        · exact h.fr x e
        · rw [z3]
          exact h.fr z z1
      · obtain ⟨x, x1, x2, x3⟩ := h.own
        have hk2 := setW_keeps (g := fun m => goneM m G.M.e c.l) (who := c.w) h.ok.mok.srt x1
        rw [if_neg (by rw [x2]; exact fun e => hw0 e.symm)] at hk2
        exact ⟨x, hk2, x2, x3⟩
    · rcases hc with ⟨h5, _⟩ | h5 <;> omega
  · rw [if_neg h0] at hok ⊢
    exact ⟨hok, h.inj, h.pub, h.mem, h.fr, h.own, h.ep, h.last, h.hist, h.rings, h.who⟩
theorem Shr.le {A : Nat → Prop} {G : Gd} {n m n' m' : Nat} {K : List Int} {O : List (List Int)} (h : Shr A G n m K O) (hn : n ≤ n') (hm : m ≤ m') : Shr A G n' m' K O := ⟨⟨h.ok.ora.le hn, h.ok.mok, Nat.le_trans h.ok.len hm, h.ok.pos, h.ok.mem, h.ok.ps, h.ok.last⟩, h.inj, h.pub, h.mem, h.fr, h.own, h.ep, h.last, h.hist, h.rings, h.who⟩
theorem Shr.doM {A : Nat → Prop} {G : Gd} {n m : Nat} {K : List Int} {O : List (List Int)} (h : Shr A G n m K O) {x : Ope} (hp : U64 x.p) (hw : I64 x.w) (hk : (x.k = 0 ∧ 0 ≤ x.w ∧ x.w < 4) ∨ x.k = 2) : Shr A (doM G x) n (m + 1) K O := by
  rw [doM_app (hk.imp (fun e => e.1) id)]
  refine h.app (opC_pw h.ok hp hw).1 (opC_pw h.ok hp hw).2 ?_
  unfold opC
  rcases hk with ⟨e1, e2, e3⟩ | e1
  · left
    rw [if_pos e1]
    dsimp only
    rw [if_pos ⟨e2, e3⟩]
    exact ⟨rfl, x.w.toNat, by omega, by omega, rfl⟩
  · right
    rw [if_neg (by omega), if_pos e1]
theorem Shr.congr {A : Nat → Prop} {G G' : Gd} {n m : Nat} {K : List Int} {O : List (List Int)} (h : Shr A G n m K O) (e1 : G'.S = G.S) (e2 : G'.M = G.M) (e3 : ∀ i, i < 4 → A i → G'.P i = G.P i) (e4 : G'.ps = G.ps) (e5 : G'.ss = G.ss) (e6 : G'.last = G.last) : Shr A G' n m K O := by
  refine ⟨⟨by rw [e1]; exact h.ok.ora, by rw [e2]; exact h.ok.mok, by rw [e2]; exact h.ok.len, by rw [e2]; exact h.ok.pos, by rw [e2]; exact h.ok.mem, by rw [e4]; exact h.ok.ps, by rw [e6]; exact h.ok.last⟩, by rw [e5]; exact h.inj, by rw [e1, e4, e5]; exact h.pub, by rw [e2, e4]; exact h.mem, by rw [e2]; exact h.fr, by rw [e2]; exact h.own, by rw [e2]; exact h.ep, by rw [e6]; exact h.last, by rw [e1]; exact h.hist, fun i hi hA => ?_, fun i hi hA => ?_⟩
  · rw [e3 i hi hA]
    exact h.rings i hi hA
  · rw [e3 i hi hA, e5]
    exact h.who i hi hA
theorem Shr.mono {A A' : Nat → Prop} {G : Gd} {n m : Nat} {K : List Int} {O : List (List Int)} (h : Shr A G n m K O) (hA : ∀ i, A' i → A i) : Shr A' G n m K O := ⟨h.ok, h.inj, h.pub, h.mem, h.fr, h.own, h.ep, h.last, h.hist, fun i hi ha => h.rings i hi (hA i ha), fun i hi ha => h.who i hi (hA i ha)⟩
theorem Shr.fresh {A : Nat → Prop} {G : Gd} {n m : Nat} {K : List Int} {O : List (List Int)} (h : Shr A G n m K O) (hn : n ≤ 80000) {i : Nat} (hi : i < K.length) : G.S.fresh ≠ K.getD i 0 := fun e => by
  have h1 := h.hist.key i hi
  rw [← e, at_fresh h.ok.ora (by omega)] at h1
  cases h1
theorem Shr.shut {A : Nat → Prop} {G : Gd} {n m : Nat} {K : List Int} {O : List (List Int)} (h : Shr A G n m K O) (hn : n + m + 5 ≤ 80000) {i : Nat} (hi : i < 4) (ho : inB G.M.l i = false) : ∀ x ∈ (opB G).ws, (opB G).S.unwrap (G.ss i) x.b = (0, 11) := by
  intro x hx
  have hb := h.begin hn
  obtain ⟨g, p, g1, g2, g3⟩ := hb.wraps x hx
  have h1 : x.w ∈ (nowM G.M.l).map (·.w) := by
    rw [← hb.whos]
    exact List.mem_map.2 ⟨x, hx, rfl⟩
  obtain ⟨y, y1, y2⟩ := List.mem_map.1 h1
  obtain ⟨j, j1, j2, _⟩ := h.mem y (List.mem_filter.1 y1).1
  have hne : ssF G x.w ≠ G.ss i := fun e => by
    unfold ssF at e
    have e2 := h.inj _ i (by omega) hi e
    have e3 : x.w = i := by omega
    rw [e3] at h1
    rw [(inB_iff h.ok.mok.srt).2 h1] at ho
    cases ho
  show (beginM G.S G.M.l G.M.e G.last).S.unwrap (G.ss i) x.b = _
  rw [g2, unwrap_box g1 g3, if_neg hne]
theorem Knows.yes {S : St} {K : List Int} {O : List (List Int)} {r : Rg} {m i : Nat} (h : Knows K O r m) (hH : Hist S K O) (hg : Good S) (hi : i < m) : keyM r.ks i = (K.getD i 0, 0) := by
  have h1 := h.le
  have h2 := h.kl
  have h3 := (hH.ne hg (i := i) (by omega)).2
  unfold keyM
  rw [if_neg (by omega), Int.toNat_natCast, h.ks i hi, if_neg h3]
theorem Knows.not {K : List Int} {O : List (List Int)} {r : Rg} {m i : Nat} (h : Knows K O r m) (hi : m ≤ i) (hi2 : i < K.length) : keyM r.ks i = (0, 11) := by
  have h2 := h.kl
  unfold keyM
  rw [if_neg (by omega), Int.toNat_natCast, h.no i hi, if_pos rfl]
end Go.Proofs.YtkoeocghoabmbaaGreat
