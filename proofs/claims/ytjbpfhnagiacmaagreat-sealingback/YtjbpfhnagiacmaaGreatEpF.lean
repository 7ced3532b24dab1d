/-
  EpF: grafted.
-/
import Derived.Test.YtjbpfhnagiacmaaGreatRBg
import Derived.Test.YtjbpfhnagiacmaaGreatPurA
namespace Go.Proofs.YtjbpfhnagiacmaaGreat
section
section
set_option linter.unusedVariables false
set_option linter.unusedSimpArgs false
set_option synthInstance.maxSize 20000
set_option maxHeartbeats 2000000
set_option maxRecDepth 20000
open Go.RowKit Go.Maps
section
variable {w0 w w' : World} {o o' : Nat → Nat} {wb : Nat} {sl tl : Value} {I : List Nat}
theorem ROrc.low {r : Nat} {T : St} (h : ROrc w0 w o r T) : Below w0.heap.size w0 w ∧ ∀ k, k < w0.heap.size → o k = 0 := by
  obtain ⟨fr, sb, ha, _, _, h3⟩ := h
  exact ⟨ha.bel, h3⟩
theorem KpF.slice {α : Type} {f : α → List Value} {w : World} {o : Nat → Nat} {v : Value} {l : List α} (h : KpF f w o v l) : ∃ a c, v = .slice a l.length c := h.1.len
end
end
section
set_option linter.unusedVariables false
set_option linter.unusedSimpArgs false
set_option synthInstance.maxSize 20000
set_option maxHeartbeats 2000000
set_option maxRecDepth 20000
open Go.RowKit Go.Maps
theorem oldM_ora {S : St} {n : Nat} (h : Ora S n) (hn : n ≤ 80000) {key e last : Int} (hk : S.at key = some .key) : Ora (oldM S key e last).2 (n + 1) := by
  unfold oldM
  split
  · exact h.le (by omega)
  · rw [seal_key hk]
    exact h.put (by omega) (x := .seal key (form (e + 1).toNat) (be8 last)) ⟨(at_ok h.good hk).1, form_oct _, be8_oct _⟩ (fun _ _ e => by cases e) (fun _ _ _ e => by cases e) (fun k b p e => by cases e; simp [be8])
theorem begin_ora {S : St} {n : Nat} (h : Ora S n) (l : List Mb) (e last : Int) (hn : n + l.length + 5 ≤ 80000) : Ora (beginM S l e last).S (n + l.length + 3) := by
  have hnl : (nowM l).length ≤ l.length := by unfold nowM; exact List.length_filter_le _ _
  have h1 := h.key (by omega)
  obtain ⟨h2, h3⟩ := wrapF_ora (key := S.fresh) (nowM l) h1 (by omega)
  unfold beginM
  split
  · exact h1.le (by omega)
  · split
    · exact (oldM_ora h2 (by omega) (h3 _ _ (put_key_at h (by omega)))).le (by omega)
    · exact h2.le (by omega)
theorem begin_key {S : St} {n : Nat} (h : Ora S n) (l : List Mb) (e last : Int) (hn : n ≤ 80000) : U64 (beginM S l e last).key := by
  have hf := fresh_ok h.good (by have := h.len; omega)
  unfold beginM
  split
  · unfold U64; dsimp only; omega
  · split
    · exact hf.2.2.1
    · unfold U64; dsimp only; omega
end
section
set_option linter.unusedVariables false
set_option linter.unusedSimpArgs false
set_option synthInstance.maxSize 20000
set_option maxHeartbeats 2000000
set_option maxRecDepth 20000
open Go.RowKit Go.Maps
structure CVar (w : World) (o : Nat → Nat) (vb : Nat) (T : TypeId) (c : Cg) (a b : Value) (qs : List Wq) : Prop where
  var : Blk w vb T (cc c a b)
  own : o vb = 0
  cg : CgAt w c a b qs
  ka : KpF wq w o a qs
  kq : ∀ q ∈ qs, Kp0 w o q.2 q.1.b
  kb : Kp0 w o b c.o
theorem CVar.mv {I : List Nat} {w w' : World} {o o' : Nat → Nat} {vb : Nat} {T : TypeId} {c : Cg} {a b : Value} {qs : List Wq} (h : CVar w o vb T c a b qs) (m : Mv I w o w' o') (h0 : 0 ∉ I) : CVar w' o' vb T c a b qs :=
  ⟨h.var.block (m.block vb h.var.lt (by rw [h.own]; exact h0)), by rw [m.ext vb h.var.lt]; exact h.own, ⟨(h.ka.mv m h0).1, fun q hq => ((h.kq q hq).mv m h0).1, h.cg.ok, h.cg.ws, (h.kb.mv m h0).1, h.cg.k, h.cg.w, h.cg.p, h.cg.l⟩, h.ka.mv m h0, fun q hq => (h.kq q hq).mv m h0, h.kb.mv m h0⟩
theorem CVar.reown {w : World} {o : Nat → Nat} {vb : Nat} {T : TypeId} {c : Cg} {a b : Value} {qs : List Wq} (h : CVar w o vb T c a b qs) (d : Nat) : CVar w (reown d o) vb T c a b qs :=
  ⟨h.var, reown_zero h.own, h.cg, h.ka.reown d, fun q hq => (h.kq q hq).reown d, h.kb.reown d⟩
theorem cvar_new {w : World} {o : Nat → Nat} {c : Cg} {a b : Value} {qs : List Wq} (T : TypeId) (hC : CgAt w c a b qs) (ha : KpF wq w o a qs) (hq : ∀ q ∈ qs, Kp0 w o q.2 q.1.b) (hk : Kp0 w o b c.o) :
    CVar (w.alloc (.cells #[.int .i64 c.k, .int .i64 c.w, .int .u64 c.p, .int .i64 c.l, a, b] T)) (newTo o w 0) w.heap.size T c a b qs := by
  have m : Mv [] w o (w.alloc (.cells #[.int .i64 c.k, .int .i64 c.w, .int .u64 c.p, .int .i64 c.l, a, b] T)) (newTo o w 0) := Mv.of_below 0 (balloc (Below.refl _ _) _)
  exact ⟨blk_new w _ T, newTo_new (Nat.le_refl _), hC.below (balloc (Below.refl _ _) _), ha.mv m (by simp), fun q hq' => (hq q hq').mv m (by simp), hk.mv m (by simp)⟩
theorem cvar_put {w : World} {o : Nat → Nat} {c : Cg} {a b : Value} {qs : List Wq} {vb d : Nat} {T : TypeId} {u0 u1 u2 u3 u4 u5 : Value} (hd : d ≠ 0) (hb : Blk w vb T [u0, u1, u2, u3, u4, u5]) (ho : o vb = d) (hC : CgAt w c a b qs) (ha : KpF wq w o a qs) (hq : ∀ q ∈ qs, Kp0 w o q.2 q.1.b) (hk : Kp0 w o b c.o) :
    CVar (put6 w vb (.int .i64 c.k) (.int .i64 c.w) (.int .u64 c.p) (.int .i64 c.l) a b) (reown d (newTo o w 0)) vb T c a b qs ∧ Mv [d] w o (put6 w vb (.int .i64 c.k) (.int .i64 c.w) (.int .u64 c.p) (.int .i64 c.l) a b) (newTo o w 0) := by
  have m : Mv [d] w o (put6 w vb (.int .i64 c.k) (.int .i64 c.w) (.int .u64 c.p) (.int .i64 c.l) a b) (newTo o w 0) := Mv.of_turn 0 (turn_grown (put6_grown _ _ _ _ _ _ _ _)) (fun k hk _ => by
    simp at hk
    subst hk
    rw [ho]; simp)
  have h0 : 0 ∉ [d] := by simp; omega
  refine ⟨⟨put6_blk hb, reown_at (by rw [newTo_old hb.lt]; exact ho), ⟨(ha.mv m h0).1, fun q hq' => ((hq q hq').mv m h0).1, hC.ok, hC.ws, (hk.mv m h0).1, hC.k, hC.w, hC.p, hC.l⟩, (ha.mv m h0).reown d, fun q hq' => ((hq q hq').mv m h0).reown d, (hk.mv m h0).reown d⟩, m⟩
theorem Mv.drew {I : List Nat} {w w' : World} {o o' : Nat → Nat} (h : Mv I w.drew o w' o') : Mv I w o w' o' := ⟨h.os, h.tape, h.output, h.size, h.ext, h.block⟩
theorem mv_drew (I : List Nat) (w : World) (o : Nat → Nat) : Mv I w o w.drew o := ⟨rfl, rfl, rfl, Nat.le_refl _, fun _ _ => rfl, fun _ _ _ => rfl⟩
def zC6 : Array Value := #[.int .i64 0, .int .i64 0, .int .u64 0, .int .i64 0, .slice none 0 0, .slice none 0 0]
structure ApF (W w : World) (tb : Nat) (T : TypeId) (lv v : Value) (S : Sm) : Prop where
  var : Blk w tb T [v, .int .i64 S.e]
  row : RowF mc w v S.l
  new : ∀ j, v.ownBlock = some j → W.heap.size ≤ j ∨ lv.ownBlock = some j
  le : W.heap.size ≤ tb
  bel : Below W.heap.size W w
theorem apF_new {W w : World} {lv v : Value} {S : Sm} (T : TypeId) (h : RowF mc w v S.l) (hn : ∀ j, v.ownBlock = some j → W.heap.size ≤ j ∨ lv.ownBlock = some j) (hb : Below W.heap.size W w) : ApF W (w.alloc (.cells #[v, .int .i64 S.e] T)) w.heap.size T lv v S :=
  ⟨blk_new w _ T, h.below (balloc (Below.refl _ _) _), hn, hb.size, balloc hb _⟩
theorem ApF.kp {W w : World} {o : Nat → Nat} {tb : Nat} {T : TypeId} {lv v : Value} {S : Sm} {l : List Mb} (h : ApF W w tb T lv v S) (hl : KpF mc W o lv l) (hp : l ≠ []) : KpF mc w (newTo o W 0) v S.l := ⟨h.row, fun hs j hj => by
  refine ⟨rowF_lt mc_pos h.row hs j hj, ?_⟩
  rcases h.new j hj with e | e
  · exact newTo_new e
  · rw [newTo_old (hl.2 hp j e).1]; exact (hl.2 hp j e).2⟩
end
end
section
set_option linter.unusedVariables false
set_option linter.unusedSimpArgs false
set_option synthInstance.maxSize 20000
set_option maxHeartbeats 2000000
set_option maxRecDepth 20000
open Go.RowKit Go.Maps
theorem find_box {S : St} {h : Int} (hh : U64 h) (z : Nat) : S.find (boxOf h z) = S.at h := by
  unfold St.find
  rw [if_pos (by rw [boxOf_length]; omega)]
  unfold boxOf
  rw [ofBe8_be8 h _ hh]
theorem box_own {h : Int} (hh : U64 h) (z : Nat) : boxOf h z = boxOf (ofBe8 (boxOf h z)) z := by
  unfold boxOf
  rw [ofBe8_be8 h _ hh]
theorem ofBe8_self {h : Int} (hh : U64 h) : ofBe8 (be8 h) = h := by
  have := ofBe8_be8 h [] hh
  rwa [List.append_nil] at this
theorem unwrap_box {S : St} {g s s' k p : Int} (hg : U64 g) (h : S.at g = some (.wrap s' k p)) : S.unwrap s (boxOf g 8) = if s' = s then (k, 0) else (0, 11) := by
  unfold St.unwrap
  rw [find_box hg, h]
  show (if boxOf g 8 = boxOf (ofBe8 (boxOf g 8)) 8 then _ else _) = _
  rw [if_pos (box_own hg 8)]
theorem zeros_be8 (x : Int) : zerosOf (be8 x) = 16 := by
  unfold zerosOf
  rw [be8_length]
  rfl
theorem ahead_box {S : St} {g k last : Int} {e : Nat} (hg : U64 g) (hl : U64 last) (h : S.at g = some (.seal k (form e) (be8 last))) : aheadM S k e (boxOf g 16) = last := by
  have ho : S.open k (form e) (boxOf g 16) = (be8 last, 0) := by
    unfold St.open
    rw [find_box hg, h]
    show (if boxOf g 16 = boxOf (ofBe8 (boxOf g 16)) (zerosOf (be8 last)) then (if k = k then (if form e = form e then _ else _) else _) else _) = _
    rw [zeros_be8, if_pos (box_own hg 16), if_pos rfl, if_pos rfl]
  unfold aheadM
  rw [ho, if_pos ⟨rfl, be8_length last⟩]
  exact ofBe8_self hl
def Keep (S S' : St) : Prop := ∀ g x, S.at g = some x → S'.at g = some x
theorem Keep.refl (S : St) : Keep S S := fun _ _ h => h
theorem Keep.trans {S S' S'' : St} (h : Keep S S') (h' : Keep S' S'') : Keep S S'' := fun g x hg => h' g x (h g x hg)
theorem keep_put {S : St} {n : Nat} (h : Ora S n) (hn : n ≤ 90000) (x : What) : Keep S (S.put x) := fun g y hg => at_put_old h.good (by have := h.len; omega) hg
/-! ### The wraps -/
theorem wrap_pubE {S : St} {p k s : Int} (hp : S.at p = some (.pub s)) (hk : S.at k = some .key) : S.wrap p k = ((boxOf S.fresh 8, 0), S.put (.wrap s k p)) := by
  unfold St.wrap
  rw [hp]
  show (if S.at k = some .key then _ else _) = _
  rw [if_pos hk]
theorem wrapF_all {key : Int} (ss : Int → Int) : ∀ (l : List Mb) {S : St} {n : Nat}, Ora S n → n + l.length ≤ 80000 → S.at key = some .key → (∀ m ∈ l, S.at m.p = some (.pub (ss m.w))) →
    (wrapF key l S).2.2 = 0 ∧ (wrapF key l S).2.1.map (·.w) = l.map (·.w) ∧ ∀ x ∈ (wrapF key l S).2.1, ∃ g p, U64 g ∧ x.b = boxOf g 8 ∧ (wrapF key l S).1.at g = some (.wrap (ss x.w) key p)
  | [], S, n, h, hn, hk, hp => ⟨rfl, rfl, fun x hx => by cases hx⟩
  | m :: l, S, n, h, hn, hk, hp => by
    simp only [List.length_cons] at hn
    have hN : S.rows.length < 1000000000 := by have := h.len; omega
    have hw := wrap_pubE (hp m (by simp)) hk
    have h1 := h.wrap (by omega) m.p key
    have hkp : Keep S (S.wrap m.p key).2 := fun g x hg => wrap_keeps h (by omega) m.p key hg
    obtain ⟨i1, i2, i3⟩ := wrapF_all ss l h1 (by omega) (hkp _ _ hk) (fun x hx => hkp _ _ (hp x (by simp [hx])))
    have i4 := (wrapF_ora (key := key) l h1 (by omega)).2
    have e0 : (S.wrap m.p key).1.2 = 0 := by rw [hw]
    have eq : wrapF key (m :: l) S = ((wrapF key l (S.wrap m.p key).2).1, ⟨m.w, (S.wrap m.p key).1.1⟩ :: (wrapF key l (S.wrap m.p key).2).2.1, 0) := by
      rw [wrapF, if_pos e0, if_pos i1]
    rw [eq]
    refine ⟨rfl, by simp only [List.map_cons]; rw [i2], fun x hx => ?_⟩
    rcases List.mem_cons.1 hx with e | e
    · subst e
      refine ⟨S.fresh, m.p, (fresh_ok h.good hN).2.2.1, by rw [hw], i4 _ _ ?_⟩
      rw [hw]
      exact at_put_new h.good hN _
    · exact i3 x e
/-! ### Begin -/
structure BgOk (S : St) (l : List Mb) (e last : Int) (ss : Int → Int) : Prop where
  k : (beginM S l e last).k = 0
  key : (beginM S l e last).key = S.fresh
  keep : Keep S (beginM S l e last).S
  at' : (beginM S l e last).S.at S.fresh = some .key
  whos : (beginM S l e last).ws.map (·.w) = (nowM l).map (·.w)
  wraps : ∀ x ∈ (beginM S l e last).ws, ∃ g p, U64 g ∧ x.b = boxOf g 8 ∧ (beginM S l e last).S.at g = some (.wrap (ss x.w) S.fresh p)
  old0 : e = -1 → (beginM S l e last).o = []
  old1 : e ≠ -1 → ∃ g, U64 g ∧ (beginM S l e last).o = boxOf g 16 ∧ (beginM S l e last).S.at g = some (.seal S.fresh (form (e + 1).toNat) (be8 last))
theorem begin_ok {S : St} {n : Nat} {l : List Mb} {e last : Int} {ss : Int → Int} (h : Ora S n) (hn : n + l.length + 5 ≤ 80000) (hl : nowM l ≠ []) (hp : ∀ m ∈ l, S.at m.p = some (.pub (ss m.w))) : BgOk S l e last ss := by
  have hN : S.rows.length < 1000000000 := by have := h.len; omega
  have hnl : (nowM l).length ≤ l.length := by unfold nowM; exact List.length_filter_le _ _
  have hm : ∀ m ∈ nowM l, m ∈ l := fun m hm => (List.mem_filter.1 hm).1
  have h1 := h.key (by omega)
  have k1 : Keep S (S.put .key) := keep_put h (by omega) _
  have a1 : (S.put .key).at S.fresh = some .key := at_put_new h.good hN _
  obtain ⟨w1, w2, w3⟩ := wrapF_all ss (nowM l) h1 (by omega) a1 (fun m hm' => k1 _ _ (hp m (hm m hm')))
  obtain ⟨o1, o2⟩ := wrapF_ora (key := S.fresh) (nowM l) h1 (by omega)
  have hb : beginM S l e last = ⟨0, S.fresh, (wrapF S.fresh (nowM l) (S.put .key)).2.1, (oldM (wrapF S.fresh (nowM l) (S.put .key)).1 S.fresh e last).1, (oldM (wrapF S.fresh (nowM l) (S.put .key)).1 S.fresh e last).2⟩ := by
    unfold beginM
    rw [if_neg hl, if_pos w1]
  generalize wrapF S.fresh (nowM l) (S.put .key) = W at *
  have a2 : W.1.at S.fresh = some .key := o2 _ _ a1
  have ko : Keep W.1 (oldM W.1 S.fresh e last).2 := by
    unfold oldM
    split
    · exact Keep.refl _
    · rw [seal_key a2]
      exact keep_put o1 (by omega) _
  have kk : Keep S (oldM W.1 S.fresh e last).2 := (k1.trans o2).trans ko
  refine ⟨by rw [hb], by rw [hb], by rw [hb]; exact kk, by rw [hb]; exact ko _ _ a2, by rw [hb]; exact w2, ?_, ?_, ?_⟩
  · rw [hb]
    intro x hx
    obtain ⟨g, p, h3, h4, h5⟩ := w3 x hx
    exact ⟨g, p, h3, h4, ko _ _ h5⟩
  · intro he
    rw [hb]
    dsimp only
    unfold oldM
    rw [if_pos he]
  · intro he
    rw [hb]
    dsimp only
    unfold oldM
    rw [if_neg he, seal_key a2]
    have hN2 : W.1.rows.length < 1000000000 := by have := o1.len; omega
    exact ⟨W.1.fresh, (fresh_ok o1.good hN2).2.2.1, rfl, at_put_new o1.good hN2 _⟩
/-! ### Apply, of what Begin told -/
theorem wsF_of : ∀ (ws : List Wp) (p : Option Int), (ws.map (·.w)).Pairwise (· < ·) → (∀ q, p = some q → ∀ x ∈ ws, q < x.w) → (∀ x ∈ ws, (0 ≤ x.w ∧ x.w ≤ 7) ∧ x.b.length = 16) → wsF p ws = true
  | [], p, _, _, _ => rfl
  | x :: ws, p, h1, h2, h3 => by
    rw [List.map_cons, List.pairwise_cons] at h1
    have h4 : stepB p x = true := by
      unfold stepB whoB
      have h5 := h3 x (by simp)
      rw [decide_eq_true h5.1, decide_eq_true h5.2]
      cases p with
      | none => rfl
      | some q =>
        have := h2 q rfl x (by simp)
        show decide (q < x.w) = true
        exact decide_eq_true this
    have h6 := wsF_of ws (some x.w) h1.2 (fun q hq y hy => by
      cases hq
      exact h1.1 _ (List.mem_map.2 ⟨y, hy, rfl⟩)) (fun y hy => h3 y (by simp [hy]))
    show (stepB p x && wsF (some x.w) ws) = true
    rw [h4, h6]
    rfl
theorem nowM_srt {l : List Mb} (h : Srt l) : Srt (nowM l) := by
  unfold Srt nowM at *
  exact h.sublist List.filter_sublist
theorem apply_begin {S : St} {M : Sm} {last : Int} {ss : Int → Int} (h : BgOk S M.l M.e last ss) (hM : MOk M) (hl : nowM M.l ≠ []) (hw : ∀ x ∈ M.l, 0 ≤ x.w ∧ x.w < 4) :
    rightB (beginM S M.l M.e last).c = true ∧ (beginM S M.l M.e last).c = ⟨3, 0, 0, 0, (beginM S M.l M.e last).ws, (beginM S M.l M.e last).o⟩ ∧ applyM M (beginM S M.l M.e last).c = if 19 ≤ M.e then (zsm, 2) else (⟨M.l, M.e + 1⟩, 0) := by
  have hc : (beginM S M.l M.e last).c = ⟨3, 0, 0, 0, (beginM S M.l M.e last).ws, (beginM S M.l M.e last).o⟩ := by
    unfold Bg.c
    rw [if_pos h.k]
  have hs := nowM_srt hM.srt
  have hp : ((nowM M.l).map (·.w)).Pairwise (· < ·) := by
    rw [List.pairwise_map]
    exact hs
  have hf : wsF none (beginM S M.l M.e last).ws = true := by
    refine wsF_of _ none (by rw [h.whos]; exact hp) (fun q hq => by cases hq) (fun x hx => ?_)
    obtain ⟨g, p, _, h2, _⟩ := h.wraps x hx
    have h3 : x.w ∈ (nowM M.l).map (·.w) := by
      rw [← h.whos]
      exact List.mem_map.2 ⟨x, hx, rfl⟩
    obtain ⟨m, h4, h5⟩ := List.mem_map.1 h3
    have h6 := hw m (List.mem_filter.1 h4).1
    refine ⟨by rw [← h5]; omega, by rw [h2, boxOf_length]⟩
  have hlen : (beginM S M.l M.e last).ws.length = (nowM M.l).length := by
    have := congrArg List.length h.whos
    rwa [List.length_map, List.length_map] at this
  have hpos : 0 < (beginM S M.l M.e last).ws.length := by
    rw [hlen]
    exact List.length_pos_iff.2 hl
  have ho : (beginM S M.l M.e last).o.length = if M.e = -1 then 0 else 24 := by
    by_cases he : M.e = -1
    · rw [h.old0 he, if_pos he]
      rfl
    · obtain ⟨g, _, h2, _⟩ := h.old1 he
      rw [h2, boxOf_length, if_neg he]
  have hr : rightB (beginM S M.l M.e last).c = true := by
    rw [hc]
    unfold rightB
    rw [if_neg (show ¬ (3 : Int) = 1 by decide), if_neg (show ¬ (3 : Int) = 2 by decide), if_pos rfl]
    have h1 : wsB (beginM S M.l M.e last).ws = true := by
      unfold wsB
      rw [hf, decide_eq_true hpos]
      rfl
    have h2 : oldB (beginM S M.l M.e last).o = true := by
      unfold oldB
      rw [ho]
      by_cases he : M.e = -1
      · rw [if_pos he]
        rfl
      · rw [if_neg he]
        rfl
    dsimp only
    rw [h1, h2]
    rfl
  refine ⟨hr, hc, ?_⟩
  have hk : turnK M (beginM S M.l M.e last).c = if 19 ≤ M.e then 2 else 0 := by
    unfold turnK
    rw [hc, if_neg (show ¬ (3 : Int) = 1 by decide), if_neg (show ¬ (3 : Int) = 2 by decide)]
    unfold begK
    by_cases h19 : 19 ≤ M.e
    · rw [if_pos h19, if_pos h19]
    · rw [if_neg h19, if_neg h19, if_pos]
      dsimp only
      rw [wrap_eq hf hs, decide_eq_true h.whos.symm, ho]
      by_cases he : M.e = -1
      · rw [if_pos he, decide_eq_true he]
        rfl
      · rw [if_neg he, decide_eq_false he]
        rfl
  unfold applyM
  rw [if_pos hr, hk]
  by_cases h19 : 19 ≤ M.e
  · rw [if_pos h19, if_pos h19, if_neg (by decide)]
  · rw [if_neg h19, if_neg h19, if_pos rfl]
    unfold turnS
    rw [if_neg (by rw [hc]; exact (by decide : ¬ (3 : Int) = 1)), if_neg (by rw [hc]; exact (by decide : ¬ (3 : Int) = 2))]
    have hb : begK M.l M.e (beginM S M.l M.e last).c = 0 := by
      have h5 := hk
      unfold turnK at h5
      rw [if_neg (by rw [hc]; exact (by decide : ¬ (3 : Int) = 1)), if_neg (by rw [hc]; exact (by decide : ¬ (3 : Int) = 2)), if_neg h19] at h5
      exact h5
    rw [if_pos hb]
/-! ### The rings -/
structure Hist (S : St) (K : List Int) (O : List (List Int)) : Prop where
  len : O.length = K.length
  key : ∀ h, h < K.length → S.at (K.getD h 0) = some .key
  old : ∀ h, h + 1 < K.length → ∃ g, U64 g ∧ O.getD (h + 1) [] = boxOf g 16 ∧ S.at g = some (.seal (K.getD (h + 1) 0) (form (h + 1)) (be8 (K.getD h 0)))
theorem Hist.keep {S S' : St} {K : List Int} {O : List (List Int)} (h : Hist S K O) (k : Keep S S') : Hist S' K O := ⟨h.len, fun i hi => k _ _ (h.key i hi), fun i hi => by
  obtain ⟨g, h1, h2, h3⟩ := h.old i hi
  exact ⟨g, h1, h2, k _ _ h3⟩⟩
theorem Hist.ne {S : St} {K : List Int} {O : List (List Int)} (h : Hist S K O) (hg : Good S) {i : Nat} (hi : i < K.length) : U64 (K.getD i 0) ∧ K.getD i 0 ≠ 0 := ⟨(at_ok hg (h.key i hi)).1, (at_ok hg (h.key i hi)).2.1⟩
structure Knows (K : List Int) (O : List (List Int)) (r : Rg) (m : Nat) : Prop where
  le : m ≤ K.length
  kl : r.ks.length = K.length
  ol : r.os.length = K.length
  ks : ∀ h, h < m → r.ks.getD h 0 = K.getD h 0
  no : ∀ h, m ≤ h → r.ks.getD h 0 = 0
  os : ∀ h, m ≤ h → r.os.getD h [] = O.getD h []
theorem backF_all {S : St} {K : List Int} {O os : List (List Int)} {m : Nat} (hH : Hist S K O) (hg : Good S) (ho : ∀ h, m ≤ h → os.getD h [] = O.getD h []) : ∀ (e : Nat) (ks : List Int), e < K.length → ks.length = K.length → ks.getD e 0 = K.getD e 0 → (∀ h, h < m → h ≤ e → ks.getD h 0 = K.getD h 0) → (∀ h, m ≤ h → h < e → ks.getD h 0 = 0) → ∀ h, h ≤ e → (backF S os e ks).getD h 0 = K.getD h 0
  | 0, ks, he, hl, h1, h2, h3, h, hh => by
    obtain rfl : h = 0 := by omega
    exact h1
  | e + 1, ks, he, hl, h1, h2, h3, h, hh => by
    have hne : ks.getD (e + 1) 0 ≠ 0 := by rw [h1]; exact (hH.ne hg he).2
    by_cases hm : m ≤ e
    · have h0 : ks.getD e 0 = 0 := h3 e hm (by omega)
      obtain ⟨g, g1, g2, g3⟩ := hH.old e he
      have ha : aheadM S (ks.getD (e + 1) 0) (e + 1) (os.getD (e + 1) []) = K.getD e 0 := by
        rw [h1, ho (e + 1) (by omega), g2]
        exact ahead_box g1 (hH.ne hg (by omega)).1 g3
      rw [backF_go hne h0, ha]
      have hx : (ks.set e (K.getD e 0)).getD e 0 = K.getD e 0 := by
        rw [List.getD_eq_getElem?_getD, List.getElem?_set_self (by omega)]
        rfl
      have hy : ∀ j, j ≠ e → (ks.set e (K.getD e 0)).getD j 0 = ks.getD j 0 := fun j hj => by
        rw [List.getD_eq_getElem?_getD, List.getElem?_set_ne (fun e => hj e.symm), ← List.getD_eq_getElem?_getD]
      by_cases hee : h = e + 1
      · subst hee
        rw [backF_keeps _ _ _ _ _ (by rw [hy _ (by omega)]; exact hne), hy _ (by omega)]
        exact h1
      · exact backF_all hH hg ho e _ (by omega) (by rw [List.length_set]; exact hl) hx (fun j hj hje => by
          rw [hy j (by omega)]
          exact h2 j hj (by omega)) (fun j hj hje => by
          rw [hy j (by omega)]
          exact h3 j hj (by omega)) h (by omega)
    · have hkn : ∀ j, j ≤ e → ks.getD j 0 = K.getD j 0 := fun j hj => h2 j (by omega) (by omega)
      have h4 : ks.getD e 0 ≠ 0 := by rw [hkn e (Nat.le_refl _)]; exact (hH.ne hg (by omega)).2
      rw [backF_no (fun h => h4 h.2)]
      by_cases hee : h = e + 1
      · rw [hee]
        exact h1
      · exact hkn h (by omega)
theorem getD_snocL {α : Type} {d : α} (l : List α) (x : α) (j : Nat) : (l ++ [x]).getD j d = if j < l.length then l.getD j d else if j = l.length then x else d := by
  by_cases h : j < l.length
  · rw [if_pos h, List.getD_eq_getElem?_getD, List.getD_eq_getElem?_getD, List.getElem?_append_left h]
  · rw [if_neg h]
    by_cases h2 : j = l.length
    · subst h2
      rw [if_pos rfl, List.getD_eq_getElem?_getD]
      simp
    · rw [if_neg h2, List.getD_eq_getElem?_getD, List.getElem?_eq_none (by simp; omega)]
      rfl
theorem getD_out {α : Type} {d : α} {l : List α} {j : Nat} (h : l.length ≤ j) : l.getD j d = d := by
  rw [List.getD_eq_getElem?_getD, List.getElem?_eq_none h]
  rfl
theorem learn_in {S : St} {K : List Int} {O : List (List Int)} {r : Rg} {m : Nat} {c : Cg} {x : Int} (hr : Knows K O r m) (hH : Hist S (K ++ [x]) (O ++ [c.o])) (hO : O.length = K.length) (hg : Good S) (hc : rightB c = true ∧ c.k = 3) (hl : K.length < 20) (hu : unwM S r.w r.s c.ws = (x, 0)) :
    (learnP S r c).2 = 0 ∧ Knows (K ++ [x]) (O ++ [c.o]) (learnP S r c).1 (K.length + 1) ∧ (learnP S r c).1.w = r.w ∧ (learnP S r c).1.s = r.s := by
  have hK : (K ++ [x]).length = K.length + 1 := by simp
  have hx : x ≠ 0 := by
    have := (hH.ne hg (i := K.length) (by rw [hK]; omega)).2
    rw [getD_snocL, if_neg (by omega), if_pos rfl] at this
    exact this
  unfold learnP
  rw [learnG_go hc (by rw [hr.kl]; omega), hu]
  dsimp only
  have hkl := hr.kl
  have hol := hr.ol
  have hle := hr.le
  refine ⟨rfl, ⟨Nat.le_of_eq hK.symm, by rw [backF_length, List.length_append, hkl, List.length_append], ?_, ?_, ?_, ?_⟩, rfl, rfl⟩
  · unfold struck
    split
    · simp [hol]
    · simp [hol]
  · intro h hh
    refine backF_all hH hg (m := m) (fun j hj => ?_) r.ks.length _ (by rw [hK, hkl]; omega) (by simp [hkl]) ?_ (fun j hj hje => ?_) (fun j hj hje => ?_) h (by rw [hkl]; omega)
    · rw [getD_snocL, getD_snocL, hol, hO]
      by_cases h1 : j < K.length
      · rw [if_pos h1, if_pos h1]
        exact hr.os j hj
      · rw [if_neg h1, if_neg h1]
    · rw [getD_snocL, getD_snocL, if_neg (by omega), if_pos rfl, hkl, if_neg (by omega), if_pos rfl]
    · rw [getD_snocL, getD_snocL, if_pos (by omega), if_pos (by omega)]
      exact hr.ks j hj
    · rw [getD_snocL, if_pos hje]
      exact hr.no j hj
  · intro h hh
    exact getD_out (by rw [backF_length, List.length_append, hkl]; simpa using hh)
  · intro h hh
    have e1 : (r.ks ++ [x]).getD ((r.ks ++ [x]).length - 1) 0 ≠ 0 := by
      rw [List.length_append]
      show (r.ks ++ [x]).getD (r.ks.length + 1 - 1) 0 ≠ 0
      rw [Nat.add_sub_cancel, getD_snoc]
      exact hx
    unfold struck
    rw [if_neg e1, getD_out (by simp [hol]; omega), getD_out (by simp [hO]; omega)]
theorem learn_out {S : St} {K : List Int} {O : List (List Int)} {r : Rg} {m : Nat} {c : Cg} (x : Int) (hr : Knows K O r m) (hO : O.length = K.length) (hc : rightB c = true ∧ c.k = 3) (hl : K.length < 20) (hu : unwM S r.w r.s c.ws = (0, 11)) :
    (learnP S r c).2 = 11 ∧ Knows (K ++ [x]) (O ++ [c.o]) (learnP S r c).1 m ∧ (learnP S r c).1.w = r.w ∧ (learnP S r c).1.s = r.s := by
  unfold learnP
  rw [learnG_go hc (by rw [hr.kl]; omega), hu]
  dsimp only
  have hkl := hr.kl
  have hol := hr.ol
  have hle := hr.le
  have e1 : (r.ks ++ [(0 : Int)]).getD ((r.ks ++ [(0 : Int)]).length - 1) 0 = 0 := by
    rw [List.length_append]
    show (r.ks ++ [(0 : Int)]).getD (r.ks.length + 1 - 1) 0 = 0
    rw [Nat.add_sub_cancel, getD_snoc]
  have e2 : backF S (r.os ++ [c.o]) r.ks.length (r.ks ++ [0]) = r.ks ++ [0] := backF_zero (getD_snoc _ _)
  rw [e2]
  unfold struck
  rw [if_pos e1]
  refine ⟨rfl, ⟨by simp; omega, by simp [hkl], by simp [hol], fun h hh => ?_, fun h hh => ?_, fun h hh => ?_⟩, rfl, rfl⟩
  · dsimp only
    rw [getD_snocL, getD_snocL, if_pos (by omega), if_pos (by omega)]
    exact hr.ks h hh
  · dsimp only
    rw [getD_snocL]
    by_cases h1 : h < r.ks.length
    · rw [if_pos h1]
      exact hr.no h hh
    · rw [if_neg h1]
      split <;> rfl
  · dsimp only
    rw [getD_snocL, getD_snocL, hol, hO]
    by_cases h1 : h < K.length
    · rw [if_pos h1, if_pos h1]
      exact hr.os h hh
    · rw [if_neg h1, if_neg h1]
/-! ### Who may open -/
theorem unw_in {S : St} {l : List Mb} {e last : Int} {ss : Int → Int} (h : BgOk S l e last ss) {n : Int} (hn : n ∈ (nowM l).map (·.w)) : unwM (beginM S l e last).S n (ss n) (beginM S l e last).ws = (S.fresh, 0) := by
  rw [← h.whos] at hn
  obtain ⟨y, hy, hyn⟩ := List.mem_map.1 hn
  unfold unwM
  cases hf : (beginM S l e last).ws.find? (fun x => decide (x.w = n)) with
  | none =>
    have := List.find?_eq_none.1 hf y hy
    simp [hyn] at this
  | some x =>
    have h1 := List.find?_some hf
    have h2 : x.w = n := by simpa using h1
    obtain ⟨g, p, g1, g2, g3⟩ := h.wraps x (List.mem_of_find?_eq_some hf)
    show (beginM S l e last).S.unwrap (ss n) x.b = _
    rw [g2, unwrap_box g1 g3, h2, if_pos rfl]
theorem unw_out {S : St} {l : List Mb} {e last : Int} {ss : Int → Int} (h : BgOk S l e last ss) {n : Int} (hn : n ∉ (nowM l).map (·.w)) (sec : Int) : unwM (beginM S l e last).S n sec (beginM S l e last).ws = (0, 11) := by
  rw [← h.whos] at hn
  unfold unwM
  cases hf : (beginM S l e last).ws.find? (fun x => decide (x.w = n)) with
  | none => rfl
  | some x =>
    have h1 := List.find?_some hf
    exact absurd (List.mem_map.2 ⟨x, List.mem_of_find?_eq_some hf, by simpa using h1⟩) hn
theorem Hist.next {S : St} {K : List Int} {O : List (List Int)} {l : List Mb} {e last : Int} {ss : Int → Int} (h : Hist S K O) (hb : BgOk S l e last ss) (he : e + 1 = K.length) (hl : K ≠ [] → last = K.getD (K.length - 1) 0) : Hist (beginM S l e last).S (K ++ [S.fresh]) (O ++ [(beginM S l e last).o]) := by
  have hlen := h.len
  refine ⟨by simp [hlen], fun i hi => ?_, fun i hi => ?_⟩
  · rw [getD_snocL]
    by_cases h1 : i < K.length
    · rw [if_pos h1]
      exact hb.keep _ _ (h.key i h1)
    · rw [if_neg h1, if_pos (by simp at hi; omega)]
      exact hb.at'
  · have hi' : i < K.length := by simpa using hi
    rw [getD_snocL, getD_snocL, getD_snocL, if_pos hi', hlen]
    by_cases h1 : i + 1 < K.length
    · rw [if_pos h1, if_pos h1]
      obtain ⟨g, g1, g2, g3⟩ := h.old i h1
      exact ⟨g, g1, g2, hb.keep _ _ g3⟩
    · have h2 : i + 1 = K.length := by omega
      rw [if_neg h1, if_neg h1, if_pos h2, if_pos h2]
      have hne : e ≠ -1 := by omega
      obtain ⟨g, g1, g2, g3⟩ := hb.old1 hne
      have e1 : (e + 1).toNat = i + 1 := by omega
      have e2 : last = K.getD i 0 := by
        rw [hl (fun e0 => by rw [e0] at hi'; simp at hi')]
        congr 1
        omega
      rw [e1] at g3
      exact ⟨g, g1, g2, by rw [← e2]; exact g3⟩
/-! ### The law's world, of Shared and Gone -/
/-! ### Its start, and invitations and revocations -/
theorem Knows.yes {S : St} {K : List Int} {O : List (List Int)} {r : Rg} {m i : Nat} (h : Knows K O r m) (hH : Hist S K O) (hg : Good S) (hi : i < m) : keyM r.ks i = (K.getD i 0, 0) := by
  have h1 := h.le
  have h2 := h.kl
  have h3 := (hH.ne hg (i := i) (by omega)).2
  unfold keyM
  rw [if_neg (by omega), Int.toNat_natCast, h.ks i hi, if_neg h3]
theorem Knows.not {K : List Int} {O : List (List Int)} {r : Rg} {m i : Nat} (h : Knows K O r m) (hi : m ≤ i) (hi2 : i < K.length) : keyM r.ks i = (0, 11) := by
  have h2 := h.kl
  unfold keyM
  rw [if_neg (by omega), Int.toNat_natCast, h.no i hi, if_pos rfl]
end
end Go.Proofs.YtjbpfhnagiacmaaGreat
