/-
  The program's map of items: what it tells; looked up, put, taken away, gone over.
-/
import Derived.Test.YthnjbjlhfohpfaaGreatTrP
namespace Go.Proofs.YthnjbjlhfohpfaaGreat
set_option linter.unusedVariables false
set_option linter.unusedSimpArgs false
set_option synthInstance.maxSize 20000
set_option maxHeartbeats 2000000
set_option maxRecDepth 20000
open Go.RowKit Go.Maps

/-- Every value reads as itself. -/
def rvT (v : Value) : Option (DataW Value × List MemPlace) := some (.held v, [])
/-- What a map as read says of a list of items. -/
structure Tl (D : DataW Value) (L : List IT) : Prop where
  yes : ∀ x ∈ L, has D (keyL x.m.n) = true ∧ ∀ z, D.atKey (keyL x.m.n) z = .held (iv x)
  no : ∀ kl, (∀ x ∈ L, keyL x.m.n ≠ kl) → has D kl = false
  len : Maps.size D = L.length
def MapT (w : World) (b : Nat) (L : List IT) : Prop := ∃ m D, w.ownsMap Tryz.prog 35 rvT b m D ∧ Tl D L
theorem under68 : Tryz.prog.underlying 89 = some (.map 35 61) := by kernel_rfl
theorem zero35 (w : World) : (zeroValue 61).run Tryz.prog w = .ok (iv zT) w := by kernel_rfl
theorem size_es {w : World} {b m : Nat} {D : DataW Value} (h : w.ownsMap Tryz.prog 35 rvT b m D) : w.ownsMap Tryz.prog 35 rvT b (Maps.size D) D := by
  obtain ⟨es, clock, hb, F, hs, rfl⟩ := h
  refine ⟨es, clock, hb, F, ?_, rfl⟩
  simp [Maps.size, length_sorted]
theorem same_len : ∀ {L : List IM}, SrtI L → ∀ n, (L.filter (atN n)).length = if hasM L n = true then 1 else 0
  | [], _, n => rfl
  | z :: L, h, n => by
    obtain ⟨h1, h2⟩ := List.pairwise_cons.1 h
    have ih := same_len h2 n
    by_cases e : z.n = n
    · have hz : atN n z = true := decide_eq_true e
      have h0 : L.filter (atN n) = [] := by
        rw [List.filter_eq_nil_iff]
        intro x hx hx2
        have e2 : x.n = n := of_decide_eq_true hx2
        have h3 : ltP z.n x.n := h1 x hx
        rw [e, e2] at h3
        exact ltP_irrefl _ h3
      rw [List.filter_cons_of_pos hz, h0, if_pos (hasM_iff.2 ⟨z, by simp, e⟩)]
      rfl
    · have hz : ¬ atN n z = true := fun h => e (of_decide_eq_true h)
      rw [List.filter_cons_of_neg hz, ih]
      have : hasM (z :: L) n = hasM L n := bool_eq (fun h => by
        obtain ⟨x, hx, e2⟩ := hasM_iff.1 h
        rcases List.mem_cons.1 hx with a | a
        · rw [a] at e2; exact absurd e2 e
        · exact hasM_iff.2 ⟨x, a, e2⟩) (fun h => by
        obtain ⟨x, hx, e2⟩ := hasM_iff.1 h
        exact hasM_iff.2 ⟨x, by simp [hx], e2⟩)
      rw [this]
theorem three_len (n : S) : ∀ L : List IM, (L.filter (ahead n)).length + (L.filter (behind n)).length + (L.filter (atN n)).length = L.length
  | [] => rfl
  | z :: L => by
    have ih := three_len n L
    rw [List.filter_cons, List.filter_cons, List.filter_cons]
    unfold ahead behind atN at *
    by_cases h1 : ltP z.n n
    · have h2 : ¬ ltP n z.n := fun h => ltP_irrefl _ (ltP_trans h1 h)
      have h3 : ¬ z.n = n := fun e => by rw [e] at h1; exact ltP_irrefl _ h1
      rw [decide_eq_true h1, decide_eq_false h2, decide_eq_false h3]
      simp only [if_true, Bool.false_eq_true, if_false, List.length_cons]
      omega
    · by_cases h2 : ltP n z.n
      · have h3 : ¬ z.n = n := fun e => by rw [e] at h2; exact ltP_irrefl _ h2
        rw [decide_eq_false h1, decide_eq_true h2, decide_eq_false h3]
        simp only [if_true, Bool.false_eq_true, if_false, List.length_cons]
        omega
      · have h3 : z.n = n := ltP_total h1 h2
        rw [decide_eq_false h1, decide_eq_false h2, decide_eq_true h3]
        simp only [if_true, Bool.false_eq_true, if_false, List.length_cons]
        omega
theorem setT_len {L : List IT} (hs : SrtI (L.map IT.m)) (it : IT) : (setT L it true).length = if hasM (L.map IT.m) it.m.n = true then L.length else L.length + 1 := by
  have h1 := three_len it.m.n (L.map IT.m)
  have h2 := same_len hs it.m.n
  have h3 : (setT L it true).length = ((setT L it true).map IT.m).length := by rw [List.length_map]
  rw [h3, setT_map]
  show (putM _ _).length = _
  unfold putM
  rw [List.length_append, List.length_cons]
  rw [List.length_map] at h1
  split at h2 <;> simp_all <;> omega
theorem delT_len {L : List IT} (hs : SrtI (L.map IT.m)) (it : IT) : (setT L it false).length + (if hasM (L.map IT.m) it.m.n = true then 1 else 0) = L.length := by
  have h2 := same_len hs it.m.n
  have h3 : (setT L it false).length = ((setT L it false).map IT.m).length := by rw [List.length_map]
  rw [h3, setT_map, ← h2]
  show (delM _ _).length + _ = _
  unfold delM
  have key : ∀ M : List IM, (M.filter (other it.m.n)).length + (M.filter (atN it.m.n)).length = M.length := fun M => by
    induction M with
    | nil => rfl
    | cons z M ih =>
      rw [List.filter_cons, List.filter_cons]
      unfold other atN at *
      by_cases e : z.n = it.m.n
      · rw [decide_eq_true e]
        simp only [if_true, Bool.not_true, Bool.false_eq_true, if_false, List.length_cons]
        omega
      · rw [decide_eq_false e]
        simp only [if_true, Bool.not_false, Bool.false_eq_true, if_false, List.length_cons]
        omega
  rw [key, List.length_map]
theorem setT_iff {L : List IT} {it y : IT} : y ∈ setT L it true ↔ y = it ∨ (y ∈ L ∧ y.m.n ≠ it.m.n) := by
  unfold setT stT
  rw [if_pos rfl, if_pos rfl, List.mem_append, List.mem_cons, List.mem_filter, List.mem_filter]
  unfold ahT beT
  constructor
  · rintro (⟨h1, h2⟩ | rfl | ⟨h1, h2⟩)
    · exact .inr ⟨h1, fun e => ltP_irrefl _ (e ▸ of_decide_eq_true h2)⟩
    · exact .inl rfl
    · exact .inr ⟨h1, fun e => ltP_irrefl _ (e ▸ of_decide_eq_true h2)⟩
  · rintro (rfl | ⟨h1, h2⟩)
    · exact .inr (.inl rfl)
    · by_cases h3 : ltP y.m.n it.m.n
      · exact .inl ⟨h1, decide_eq_true h3⟩
      · by_cases h4 : ltP it.m.n y.m.n
        · exact .inr (.inr ⟨h1, decide_eq_true h4⟩)
        · exact absurd (ltP_total h3 h4) h2
theorem delT_iff {L : List IT} {it y : IT} : y ∈ setT L it false ↔ (y ∈ L ∧ y.m.n ≠ it.m.n) := by
  unfold setT stT
  rw [if_neg (by simp), List.mem_filter]
  unfold otT
  simp
theorem srtT_uniq {L : List IT} (h : SrtI (L.map IT.m)) {x y : IT} (hx : x ∈ L) (hy : y ∈ L) (e : x.m.n = y.m.n) : x = y := by
  have h' : L.Pairwise fun x y => ltP x.m.n y.m.n := (List.pairwise_map (f := IT.m) (R := LtI)).1 h
  clear h
  induction L with
  | nil => cases hx
  | cons z L ih =>
    obtain ⟨h1, h2⟩ := List.pairwise_cons.1 h'
    rcases List.mem_cons.1 hx with a1 | a1
    · rcases List.mem_cons.1 hy with b1 | b1
      · rw [a1, b1]
      · have h3 := h1 y b1
        rw [← e, a1] at h3
        exact absurd h3 (ltP_irrefl _)
    · rcases List.mem_cons.1 hy with b1 | b1
      · have h3 := h1 x a1
        rw [e, b1] at h3
        exact absurd h3 (ltP_irrefl _)
      · exact ih a1 b1 h2
/-- Items whose stamps are numbers. -/
def OkL (L : List IT) : Prop := ∀ x ∈ L, SOk x.m.n
section
variable {w w' : World} {b : Nat} {L : List IT} {n : S}
theorem mapT_new (w : World) : MapT (w.alloc (.map #[] 0)) w.heap.size [] := ⟨0, .map [], World.ownsMap_made w Tryz.prog 35 rvT, ⟨fun x h => (by cases h), fun _ _ => rfl, rfl⟩⟩
theorem MapT.lt (h : MapT w b L) : b < w.heap.size := by
  obtain ⟨m, D, ho, _⟩ := h
  exact ho.lt
theorem MapT.block (h : MapT w b L) (hb : w'.heap[b]? = w.heap[b]?) : MapT w' b L := by
  obtain ⟨m, D, ⟨es, clock, he, r⟩, hr⟩ := h
  exact ⟨m, D, ⟨es, clock, hb.trans he, r⟩, hr⟩
theorem MapT.below (h : MapT w b L) (hb : Below w.heap.size w w') : MapT w' b L := h.block (hb.block b h.lt)
/-- A map's block holds no cells. -/
theorem MapT.nocells (h : MapT w b L) {cs : Array Value} {e : TypeId} {z : Nat × Nat} (hc : w.heap[b]? = some (.cells cs e z)) : False := by
  obtain ⟨m, D, ⟨es, clock, he, r⟩, hr⟩ := h
  rw [he] at hc
  cases hc
theorem hasL_iff : hasM (L.map IT.m) n = true ↔ ∃ x ∈ L, x.m.n = n := by
  rw [hasM_iff]
  constructor
  · rintro ⟨x, hx, e⟩
    obtain ⟨y, hy, rfl⟩ := List.mem_map.1 hx
    exact ⟨y, hy, e⟩
  · rintro ⟨x, hx, e⟩
    exact ⟨x.m, List.mem_map.2 ⟨x, hx, rfl⟩, e⟩
theorem Tl.has {D : DataW Value} (h : Tl D L) (ok : OkL L) (hn : SOk n) : has D (keyL n) = hasM (L.map IT.m) n := by
  by_cases hx : ∃ x ∈ L, x.m.n = n
  · rw [hasL_iff.2 hx]
    obtain ⟨x, hx, rfl⟩ := hx
    exact (h.yes x hx).1
  · have : hasM (L.map IT.m) n = false := by
      cases hh : hasM (L.map IT.m) n with
      | false => rfl
      | true => exact absurd (hasL_iff.1 hh) hx
    rw [this]
    exact h.no _ fun x hx2 e => hx ⟨x, hx2, keyL_inj (ok x hx2) hn e⟩
theorem MapT.look (h : MapT w b L) (ok : OkL L) (hn : SOk n) :
    (∃ x ∈ L, x.m.n = n ∧ (Instr.lookup 89 (.map (some b)) (sv n) true).run Tryz.prog w = .ok (.tuple #[iv x, .bool true]) w) ∨
    ((∀ x ∈ L, ¬ x.m.n = n) ∧ (Instr.lookup 89 (.map (some b)) (sv n) true).run Tryz.prog w = .ok (.tuple #[iv zT, .bool false]) w) := by
  obtain ⟨m, D, ho, hT⟩ := h
  obtain ⟨v, ps, hrun, hv⟩ := ho.look_ok keyed24 under68 (zero35 w) (zd := .held (iv zT)) (zp := []) rfl (key24 hn)
  have hv' : DataW.held v = D.atKey (keyL n) (.held (iv zT)) := (Prod.mk.inj (Option.some.inj hv)).1
  by_cases hx : ∃ x ∈ L, x.m.n = n
  · obtain ⟨x, hx, e⟩ := hx
    obtain ⟨h1, h2⟩ := hT.yes x hx
    rw [e] at h1 h2
    rw [h2] at hv'
    refine .inl ⟨x, hx, e, ?_⟩
    rw [hrun, h1, DataW.held.inj hv']
  · have h1 : has D (keyL n) = false := hT.no _ fun x hx2 e => hx ⟨x, hx2, keyL_inj (ok x hx2) hn e⟩
    rw [atKey_of_not_has h1] at hv'
    refine .inr ⟨fun x hx2 e => hx ⟨x, hx2, e⟩, ?_⟩
    rw [hrun, h1, DataW.held.inj hv']
theorem MapT.len (h : MapT w b L) (ty : TypeId) : (Builtin.len_ #[89] ty #[.map (some b)]).run Tryz.prog w = .ok (.int .i64 (L.length : Int)) w := by
  obtain ⟨m, D, ho, hT⟩ := h
  rw [ho.len under68 ty, hT.len]
theorem MapT.store (h : MapT w b L) (ok : OkL L) (hs : SrtI (L.map IT.m)) (hl : L.length ≤ 100000) (it : IT) (hn : SOk it.m.n) :
    ∃ w', (Instr.mapUpdate 89 (.map (some b)) (sv it.m.n) (iv it)).run Tryz.prog w = .ok () w' ∧ MapT w' b (setT L it true) ∧ w.grownBy w' (some b) := by
  obtain ⟨m, D, ho, hT⟩ := h
  have hk := keyed24.key (key24 hn)
  have htd := ho.tidy keyed24
  have ho1 := size_es ho
  rw [hT.len] at ho1
  obtain ⟨w', hrun, ho', hg⟩ := ho1.update keyed24 under68 (by unfold maxLen; omega) (key24 hn) (val := iv it) (d := .held (iv it)) (ps := []) rfl
  refine ⟨w', hrun, ⟨_, _, ho', ?_, ?_, ?_⟩, hg⟩
  · intro y hy
    rcases setT_iff.1 hy with rfl | ⟨h1, h2⟩
    · exact ⟨has_put_same htd.isMap hk _, fun z => atKey_put_same htd.isMap hk _ z⟩
    · have hne : keyL y.m.n ≠ keyL it.m.n := fun e => h2 (keyL_inj (ok y h1) hn e)
      rw [has_put_other hne]
      exact ⟨(hT.yes y h1).1, fun z => by rw [atKey_put_other hne]; exact (hT.yes y h1).2 z⟩
  · intro kl hkl
    have hne : kl ≠ keyL it.m.n := fun e => hkl it (setT_iff.2 (.inl rfl)) e.symm
    rw [has_put_other hne]
    refine hT.no kl fun x hx e => ?_
    by_cases e2 : x.m.n = it.m.n
    · rw [e2] at e; exact hne e.symm
    · exact hkl x (setT_iff.2 (.inr ⟨hx, e2⟩)) e
  · rw [size_put htd, hT.len, setT_len hs, hT.has ok hn]
theorem MapT.drop (h : MapT w b L) (ok : OkL L) (hs : SrtI (L.map IT.m)) (it : IT) (hn : SOk it.m.n) (ty : TypeId) :
    ∃ w', (Builtin.delete_ #[89, 35] ty #[.map (some b), sv it.m.n]).run Tryz.prog w = .ok (.tuple #[]) w' ∧ MapT w' b (setT L it false) ∧ w.grownBy w' (some b) := by
  obtain ⟨m, D, ho, hT⟩ := h
  have hk := keyed24.key (key24 hn)
  have htd := ho.tidy keyed24
  obtain ⟨w', hrun, ho', es, clock, es', clock', hb, rfl⟩ := ho.drop keyed24 under68 (key24 hn) ty
  refine ⟨_, hrun, ⟨_, _, ho', ?_, ?_, ?_⟩, ⟨rfl, rfl, rfl, by simp [Go.ChangeMaps.setBlock], fun i _ hi => Go.ChangeMaps.heap_setBlock_other hb _ (fun e => hi (by rw [e]))⟩⟩
  · intro y hy
    obtain ⟨h1, h2⟩ := delT_iff.1 hy
    have hne : keyL y.m.n ≠ keyL it.m.n := fun e => h2 (keyL_inj (ok y h1) hn e)
    rw [has_del_other hne]
    exact ⟨(hT.yes y h1).1, fun z => by rw [atKey_del_other hne]; exact (hT.yes y h1).2 z⟩
  · intro kl hkl
    by_cases e : kl = keyL it.m.n
    · rw [e]; exact has_del_same
    · rw [has_del_other e]
      exact hT.no kl fun x hx e2 => hkl x (delT_iff.2 ⟨hx, fun e3 => e (by rw [← e2, e3])⟩) e2
  · have h1 := size_del htd (k := keyL it.m.n)
    have h2 := delT_len hs it
    rw [hT.has ok hn, hT.len] at h1
    omega
end

/-! ### Going over a map -/
/-- A loop over the map of block b, by the iterator of block r, that has had done. -/
def RgT (w : World) (b r : Nat) (L done : List IT) : Prop :=
  ∃ n D left cnt, w.ranges Tryz.prog 35 rvT b r n D left cnt ∧ Tl D L ∧ (∀ kl, left kl = true → has D kl = true) ∧ (∀ x ∈ L, left (keyL x.m.n) = true ↔ x ∉ done) ∧ (∀ x ∈ done, x ∈ L) ∧ done.Nodup
section
variable {w w' : World} {b r : Nat} {L done : List IT}
theorem MapT.range (h : MapT w b L) : ∃ w', (Instr.range 89 (.map (some b))).run Tryz.prog w = .ok (.pointer (some ⟨w.heap.size, 0, none⟩)) w' ∧ RgT w' b w.heap.size L [] ∧ w.grownBy w' none ∧ w'.heap.size = w.heap.size + 1 := by
  obtain ⟨m, D, ho, hT⟩ := h
  obtain ⟨w', h1, h2, h3, h4⟩ := ho.range keyed24 under68
  exact ⟨w', h1, ⟨_, _, _, _, h2, hT, fun kl h => h, fun x hx => ⟨fun _ h => (by cases h), fun _ => (hT.yes x hx).1⟩, fun x h => (by cases h), List.nodup_nil⟩, h3, h4⟩
theorem RgT.kept {row : Option Nat} (h : RgT w b r L done) (hg : w.grownBy w' row) (hb : some b ≠ row) (hr : some r ≠ row) : RgT w' b r L done ∧ w'.rangeLeft b r = w.rangeLeft b r := by
  obtain ⟨n, D, left, cnt, h1, h2⟩ := h
  have h3 := h1.kept hg hb hr
  exact ⟨⟨n, D, left, cnt, h3, h2⟩, by rw [h3.left_eq, h1.left_eq]⟩
theorem RgT.below (h : RgT w b r L done) (hg : Below w.heap.size w w') : RgT w' b r L done ∧ w'.rangeLeft b r = w.rangeLeft b r := h.kept (below_grown hg) (by simp) (by simp)
theorem RgT.lt (h : RgT w b r L done) : b < w.heap.size ∧ r < w.heap.size ∧ r ≠ b := by
  obtain ⟨n, D, left, cnt, h1, h2⟩ := h
  exact ⟨h1.owns.lt, h1.lt, h1.ne⟩
/-- An iterator's block, and the map's, hold no cells. -/
theorem RgT.nocells (h : RgT w b r L done) {c : Nat} {cs : Array Value} {e : TypeId} {z : Nat × Nat} (hc : w.heap[c]? = some (.cells cs e z)) : c ≠ b ∧ c ≠ r := by
  obtain ⟨n, D, left, cnt, ⟨es, clock, since, seen, c0, hb, _, _, _, hr, _⟩, h2⟩ := h
  refine ⟨fun e => ?_, fun e => ?_⟩
  · subst e; rw [hb] at hc; cases hc
  · subst e; rw [hr] at hc; cases hc
theorem RgT.next (h : RgT w b r L done) (ok : OkL L) (hs : SrtI (L.map IT.m)) (ty : TypeId) :
    ((∀ x ∈ L, x ∈ done) ∧ (Instr.next (.pointer (some ⟨r, 0, none⟩)) false ty).run Tryz.prog w = .ok (.tuple #[.bool false]) w) ∨
    ∃ x w', x ∈ L ∧ x ∉ done ∧ (Instr.next (.pointer (some ⟨r, 0, none⟩)) false ty).run Tryz.prog w = .ok (.tuple #[.bool true, sv x.m.n, iv x]) w' ∧ RgT w' b r L (done ++ [x]) ∧ w'.rangeLeft b r < w.rangeLeft b r ∧ w.grownBy w' (some r) ∧ w'.heap.size = w.heap.size ∧
      (Instr.entry (.pointer (some ⟨r, 0, none⟩))).run Tryz.prog w' = .ok (.tuple #[sv x.m.n, iv x]) w' := by
  obtain ⟨n, D, left, cnt, hR, hT, hl1, hl2, hd, hnd⟩ := h
  rcases hR.next keyed24 ty with ⟨h0, hl, hrun⟩ | ⟨key, v, kl, y, w', cnt', hkey, hlk, hv, hat, hrun, hrg, hlt, hgr, hsz, hen⟩
  · refine .inl ⟨fun x hx => ?_, hrun⟩
    by_cases h : x ∈ done
    · exact h
    · have := (hl2 x hx).2 h
      rw [hl] at this
      cases this
  · have hx : ∃ x ∈ L, keyL x.m.n = kl := by
      by_cases h : ∃ x ∈ L, keyL x.m.n = kl
      · exact h
      · have h1 := hT.no kl fun x hx e => h ⟨x, hx, e⟩
        rw [hl1 kl hlk] at h1
        cases h1
    obtain ⟨x, hx, rfl⟩ := hx
    have hky : key = sv x.m.n := keyed24.inj hkey (key24 (ok x hx))
    subst hky
    have hvx : v = iv x := by
      have h1 := (hT.yes x hx).2 (.held v)
      rw [hat] at h1
      have h2 : y = (.held v, []) := (Option.some.inj hv).symm
      rw [h2] at h1
      exact DataW.held.inj h1
    subst hvx
    have hnx := (hl2 x hx).1 hlk
    refine .inr ⟨x, w', hx, hnx, hrun, ⟨n, D, _, cnt', hrg, hT, fun kl h => ?_, fun z hz => ?_, fun z hz => ?_, ?_⟩, by rw [hrg.left_eq, hR.left_eq]; exact hlt, hgr, hsz, hen⟩
    · simp only [Bool.and_eq_true] at h
      exact hl1 kl h.1
    · rw [Bool.and_eq_true, hl2 z hz, List.mem_append, List.mem_singleton]
      by_cases e : z = x
      · subst e
        rw [WideAt.sameKey_self (keyed24.key (key24 (ok z hz)))]
        simp
      · have hne : keyL z.m.n ≠ keyL x.m.n := fun e2 => e (srtT_uniq hs hz hx (keyL_inj (ok z hz) (ok x hx) e2))
        rw [sameKey_ne hne]
        simp [e]
    · rcases List.mem_append.1 hz with h | h
      · exact hd z h
      · rw [List.mem_singleton.1 h]; exact hx
    · rw [List.nodup_append]
      exact ⟨hnd, by simp, fun a ha c hc e => hnx (by rw [← List.mem_singleton.1 hc, ← e]; exact ha)⟩
end
end Go.Proofs.YthnjbjlhfohpfaaGreat
