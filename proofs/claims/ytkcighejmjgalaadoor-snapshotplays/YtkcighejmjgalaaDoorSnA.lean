/-
  What a store's disk holds, act by act: appending, a compaction, the first one of a disk that goes down: lists alone.
-/
import Derived.Test.YtkcighejmjgalaaDoorRfO
import Derived.Test.YtkcighejmjgalaaDoorCrI
namespace Go.Proofs.YtkcighejmjgalaaDoor
set_option linter.unusedVariables false
set_option linter.unusedSimpArgs false
set_option synthInstance.maxSize 20000
set_option maxHeartbeats 2000000
set_option maxRecDepth 20000
open Go.RowKit Go.Maps

theorem isPart_gen {gen round seq i n g : Int} {x : List Int} (h : isPart (partB gen round seq i n x) g = true) : g = gen := by
  simp only [isPart, Bool.and_eq_true, decide_eq_true_eq] at h
  rw [partB_gen] at h
  exact h.2.symm
theorem append_dok' {J : Jk} {D : Dk} {l : List Int} {N : Nat} (h : DOk D N) : DOk (J.append D l).2.2 (N + partsN l.length) := by
  unfold Jk.append
  split
  · exact h.mono (by omega)
  · split
    · exact h.mono (by omega)
    · split
      · exact h.mono (by omega)
      · have h1 := wrAll_ok (frameL J.gen J.round J.count l) D J.next N h
        rw [frameL_len] at h1
        split
        · exact h1
        · exact h1
theorem bgn_dok {D : Dk} {n : Int} {l : List Int} {N : Nat} (h : DOk D N) : DOk (bgn D n l).2.2 (N + partsN l.length + 1) := by
  have hA : DOk (bgA D n l).2.2 (N + partsN l.length) := append_dok' h
  have hW : DOk (bgW D n l).2 (N + partsN l.length + 1) := hA.write
  unfold bgn
  split
  · exact h.mono (by omega)
  · split
    · exact h.mono (by omega)
    · split
      · exact hA.mono (by omega)
      · split
        · exact hW
        · exact hW.sync
theorem cpt_dok {D : Dk} {num : Int} {f : Bool} {l : List Int} {N : Nat} (h : DOk D N) : DOk (cpt D num f l).2.2 (N + partsN l.length + 1) := by
  unfold cpt
  split
  · exact h.mono (by omega)
  · exact bgn_dok h
/-- What the sectors hold, whatever else is told of the disk. -/
structure SIc (D : Dk) (num : Int) (J : Jk) (snap : List Int) (all : List (List Int)) : Prop where
  n6 : 6 ≤ D.now.length
  n60 : D.now.length ≤ 60
  n1 : 1 ≤ num
  nu : num < 4294967295
  hd : headD D (placeN num) = num
  ho : headD D (1 - placeN num) < num
  jg : J.gen = num
  jr : 1 ≤ J.round ∧ J.round ≤ 1000000
  jf : J.fin = hbase D.now.length num + hsize D.now.length
  jn : hbase D.now.length num ≤ J.next
  jm : J.next ≤ J.fin
  jc : J.count = all.length + 1
  jl : J.failed = false
  pre : Pre (bgC D num) num 0 (snap :: all) (J.next - hbase D.now.length num)
  fr : ∀ (i : Nat) (s : Sec) (g : Int), D.now[i]? = some s → 2 ≤ i → isPart (secB s) g = true → g ≤ num ∧ (g = num → hbase D.now.length num ≤ i → i < J.fin → num4 ((secB s).drop 5) ≤ J.round ∧ i < J.next)
section
variable {D : Dk} {num : Int} {J : Jk} {snap : List Int} {all : List (List Int)}
theorem SIc.fit (h : SIc D num J snap all) : hbase D.now.length num + hsize D.now.length ≤ D.now.length := hbase_fits num (by have := h.n6; omega)
theorem SIc.u32 (h : SIc D num J snap all) : U32 num := by have := h.n1; have := h.nu; unfold U32; omega
theorem hbase_ge (m : Nat) (n : Int) : 2 ≤ hbase m n := by unfold hbase; omega
theorem SIc.jok (h : SIc D num J snap all) : JOk J := by
  have h1 := (Pre.at _ _ _ _ _ h.pre).2.1
  have h2 := h.fit
  have h3 := h.n60
  have h4 := h.jm
  have h5 := h.jf
  have h6 := h.jr
  have h7 := h.n1
  have h8 := h.nu
  have h9 := h.jn
  simp only [List.length_cons] at h1
  exact ⟨by rw [h.jg]; exact h.u32, by rw [h.jg]; omega, by unfold U32; omega, by omega, h4, by omega, by rw [h.jc]; omega⟩
theorem SIc.now {E : Dk} (h : SIc D num J snap all) (e : E.now = D.now) : SIc E num J snap all := by
  have e1 : ∀ i, headD E i = headD D i := fun i => by unfold headD; rw [e]
  have e2 : bgC E num = bgC D num := by unfold bgC cont; rw [e]
  exact ⟨by rw [e]; exact h.n6, by rw [e]; exact h.n60, h.n1, h.nu, by rw [e1]; exact h.hd, by rw [e1]; exact h.ho, h.jg, h.jr, by rw [e]; exact h.jf, by rw [e]; exact h.jn, h.jm, h.jc, h.jl, by rw [e2, e]; exact h.pre, by rw [e]; exact h.fr⟩
theorem SIc.scan (h : SIc D num J snap all) : scan (bgC D num) num = (snap :: all, J.next - hbase D.now.length num) := by
  refine h.pre.stop (stand_nopart fun s hs => ?_)
  rw [List.getElem?_drop, Nat.add_zero] at hs
  obtain ⟨h1, x, hx, rfl⟩ := cont_get hs
  have h2 := h.jn
  have h3 := h.jf
  cases hp : isPart (secB x) num with
  | false => rfl
  | true =>
    have := (h.fr _ x num hx (by have := hbase_ge D.now.length num; omega) hp).2 rfl (by omega) (by omega)
    omega
theorem SIc.late (h : SIc D num J snap all) : latest (bgC D num) num ≤ J.round := by
  have hr := h.jr
  have h3 := h.jf
  refine latest_le (by omega) fun s hs hp => ?_
  obtain ⟨j, hj⟩ := List.mem_iff_getElem?.1 hs
  obtain ⟨h1, x, hx, rfl⟩ := cont_get hj
  exact ((h.fr _ x num hx (by have := hbase_ge D.now.length num; omega) hp).2 rfl (by omega) (by omega)).1
theorem SIc.lat (h : SIc D num J snap all) : latD D = num := by
  have h1 := h.hd
  have h2 := h.ho
  have h3 := placeN_le num
  unfold latD
  rcases Nat.eq_zero_or_pos (placeN num) with e | e
  · rw [e] at h1 h2
    simp at h2
    omega
  · rw [show placeN num = 1 by omega] at h1 h2
    simp at h2
    omega
theorem SIc.first (h : SIc D num J snap all) : J.next - hbase D.now.length num ≤ hsize D.now.length := by
  have := h.jm
  have := h.jf
  omega
/-- A journal that is opened there goes on as well. -/
theorem SIc.reopen (h : SIc D num J snap all) (hr : J.round < 1000000) : SIc D num (openJ (bgC D num) (hbase D.now.length num) (hsize D.now.length) num) snap all := by
  have hs := h.scan
  have hl := h.late
  have h0 : 0 ≤ latest (bgC D num) num := fold_ge _ _ _
  have h1 := h.jn
  have h2 := h.jm
  have h3 := h.jf
  have hrnd : (openJ (bgC D num) (hbase D.now.length num) (hsize D.now.length) num).round = latest (bgC D num) num + 1 := rfl
  have hnx : (openJ (bgC D num) (hbase D.now.length num) (hsize D.now.length) num).next = J.next := by
    show hbase D.now.length num + (Go.Proofs.YtkcighejmjgalaaDoor.scan (bgC D num) num).2 = J.next
    rw [hs]
    simp only
    omega
  have hfn : (openJ (bgC D num) (hbase D.now.length num) (hsize D.now.length) num).fin = J.fin := h3.symm
  refine ⟨h.n6, h.n60, h.n1, h.nu, h.hd, h.ho, rfl, by rw [hrnd]; omega, by rw [hfn]; exact h3, by rw [hnx]; exact h1, by rw [hnx, hfn]; exact h2, ?_, rfl, by rw [hnx]; exact h.pre, fun i s g hi h2i hp => ?_⟩
  · show (Go.Proofs.YtkcighejmjgalaaDoor.scan (bgC D num) num).1.length = _
    rw [hs]
    rfl
  · obtain ⟨g1, g2⟩ := h.fr i s g hi h2i hp
    refine ⟨g1, fun e h4 h5 => ?_⟩
    rw [hfn] at h5
    rw [hnx, hrnd]
    refine ⟨?_, (g2 e h4 h5).2⟩
    have hmem : secB s ∈ bgC D num := by
      refine List.mem_of_getElem? (i := i - hbase D.now.length num) ?_
      unfold bgC
      exact cont_of (by omega) (by rw [show hbase D.now.length num + (i - hbase D.now.length num) = i by omega]; exact hi)
    have := latest_all (gen := num) hmem (by rw [← e]; exact hp)
    omega
/-! ### Append -/
theorem SIc.append (h : SIc D num J snap all) (hd : D.down = false) (ha : D.armed = false) {b : List Int} (hb : b.length ≤ 4000) (ho : Oct b) :
    (∃ D', J.append D b = (0, { J with next := J.next + partsN b.length, count := J.count + 1 }, D') ∧ SIc D' num { J with next := J.next + partsN b.length, count := J.count + 1 } snap (all ++ [b]) ∧ D'.down = false ∧ D'.armed = false ∧ J.next + partsN b.length ≤ J.fin ∧ D'.now.length = D.now.length) ∨
    (J.append D b = (18, J, D) ∧ J.fin - J.next < partsN b.length) := by
  have hok := h.jok
  have h64 := frame64 hok hb ho
  have hFl := frameL_len (gen := J.gen) (round := J.round) (seq := J.count) (b := b)
  have hfit := h.fit
  have hjf := h.jf
  have hjn := h.jn
  have hjm := h.jm
  have hb2 := hbase_ge D.now.length num
  unfold Jk.append
  rw [if_neg (by omega), if_neg (by simp [h.jl])]
  by_cases hroom : J.fin - J.next < partsN b.length
  · rw [if_pos hroom]
    exact .inr ⟨rfl, hroom⟩
  · rw [if_neg hroom]
    rcases wr_cases (frameL J.gen J.round J.count b) D J.next hd (fun s hs => (h64 s hs).1) (by rw [hFl]; omega) with ⟨D', h1, h2, h3, h4, h5, h6⟩ | ⟨ha', _⟩
    · rw [h1, if_neg (by simp)]
      have hlen : D'.now.length = D.now.length := by rw [h4, putAll_len]
      have hget : ∀ i, D'.now[i]? = if J.next ≤ i ∧ i < J.next + (frameL J.gen J.round J.count b).length then ((frameL J.gen J.round J.count b)[i - J.next]?).map mkS else D.now[i]? := fun i => by rw [h4]; exact putAll_at _ _ _ i (by rw [hFl]; omega)
      have hsame : ∀ i, i < 2 → headD D' i = headD D i := fun i hi => by
        unfold headD
        rw [List.getD_eq_getElem?_getD, List.getD_eq_getElem?_getD, hget i, if_neg (by omega)]
      have hpl := placeN_le num
      refine .inl ⟨D', rfl, ⟨by rw [hlen]; exact h.n6, by rw [hlen]; exact h.n60, h.n1, h.nu, by rw [hsame _ (by omega)]; exact h.hd, by rw [hsame _ (by omega)]; exact h.ho, h.jg, h.jr, by rw [hlen]; exact h.jf, by rw [hlen]; simp only; omega, by simp only; omega, by simp only [List.length_append, List.length_cons, List.length_nil]; rw [h.jc], h.jl, ?_, fun i s g hi h2i hp => ?_⟩, h2, by rw [h6]; exact ha, by omega, hlen⟩
      · have hc := cont_put (D := D) (D' := D') (base := hbase D.now.length num) (size := hsize D.now.length) (t := J.next - hbase D.now.length num) (F := frameL J.gen J.round J.count b) (by rw [h4, show hbase D.now.length num + (J.next - hbase D.now.length num) = J.next by omega]) hfit (by rw [hFl]; omega) h64
        have hpre : Pre (bgC D' num) num 0 (snap :: all) (J.next - hbase D.now.length num) := by
          refine Pre.keep _ _ _ num 0 _ h.pre ?_
          unfold bgC
          rw [hlen]
          exact hc.1
        have hst : Stands ((bgC D' num).drop (J.next - hbase D.now.length num)) num ((0 + (snap :: all).length : Nat) : Int) b (partsN b.length) := by
          refine ⟨J.round, hok.r0, by rw [← h.jg]; exact hok.g0, hb, rfl, ?_⟩
          have := hc.2.1
          rw [hFl] at this
          unfold bgC
          rw [hlen, this, h.jg, h.jc]
          simp
        have := Pre.snoc _ _ num 0 _ _ b hpre hst
        rw [hlen]
        simp only
        rw [show J.next + partsN b.length - hbase D.now.length num = J.next - hbase D.now.length num + partsN b.length by omega]
        simpa using this
      · rw [hget i] at hi
        by_cases hin : J.next ≤ i ∧ i < J.next + (frameL J.gen J.round J.count b).length
        · rw [if_pos hin] at hi
          cases hf : (frameL J.gen J.round J.count b)[i - J.next]? with
          | none => rw [hf] at hi; cases hi
          | some x =>
            rw [hf] at hi
            have hs := Option.some.inj hi
            have hx := List.mem_of_getElem? hf
            rw [← hs, secB_mk (h64 x hx).1 (h64 x hx).2] at hp ⊢
            obtain ⟨q, _, rfl⟩ := frameL_mem hx
            have hg := isPart_gen hp
            rw [partB_round]
            rw [hFl] at hin
            exact ⟨by rw [hg, h.jg]; exact Int.le_refl _, fun _ _ _ => ⟨Int.le_refl _, by simp only; omega⟩⟩
        · rw [if_neg hin] at hi
          obtain ⟨g1, g2⟩ := h.fr i s g hi h2i hp
          refine ⟨g1, fun e h3 h4 => ?_⟩
          have h5 := g2 e (by rw [← hlen]; exact h3) h4
          exact ⟨h5.1, by simp only; omega⟩
    · rw [ha] at ha'
      cases ha'
end
structure PS (D : Dk) (num : Int) (k : Nat) : Prop where
  n6 : 6 ≤ D.now.length
  n60 : D.now.length ≤ 60
  n0 : 0 ≤ num
  nu : num + 1 < 4294967295
  hd : ∀ i, i ≤ 1 → headD D i ≤ num
  fr : ∀ (i : Nat) (s : Sec) (g : Int), D.now[i]? = some s → 2 ≤ i → isPart (secB s) g = true → g ≤ num ∨ (g = num + 1 ∧ num4 ((secB s).drop 5) ≤ 1 ∧ i < hbase D.now.length (num + 1) + k)
section
variable {D : Dk} {num : Int} {J : Jk} {snap b : List Int} {all : List (List Int)}
theorem SIc.ps (h : SIc D num J snap all) (hu : num + 1 < 4294967295) (k : Nat) : PS D num k := by
  have h1 := h.n1
  refine ⟨h.n6, h.n60, by omega, hu, fun i hi => ?_, fun i s g hi h2 hp => .inl (h.fr i s g hi h2 hp).1⟩
  have h2 := h.hd
  have h3 := h.ho
  have h4 := placeN_le num
  by_cases e : i = placeN num
  · rw [e]; omega
  · rw [show i = 1 - placeN num by omega]; omega
theorem PS.u32 {k : Nat} (h : PS D num k) : U32 (num + 1) := by have := h.n0; have := h.nu; unfold U32; omega
theorem PS.late {k : Nat} (h : PS D num k) : latest (bgC D (num + 1)) (num + 1) ≤ 1 := by
  refine latest_le (by omega) fun s hs hp => ?_
  obtain ⟨j, hj⟩ := List.mem_iff_getElem?.1 hs
  obtain ⟨h1, x, hx, rfl⟩ := cont_get hj
  rcases h.fr _ x _ hx (by have := hbase_ge D.now.length (num + 1); omega) hp with h2 | h2
  · omega
  · exact h2.2.1
theorem PS.late0 {k : Nat} (h : PS D num k) : 0 ≤ latest (bgC D (num + 1)) (num + 1) := fold_ge _ _ _
theorem PS.make (h : PS D num (partsN b.length)) (hb : b.length ≤ 4000) (ho : Oct b) (hp : partsN b.length ≤ hsize D.now.length) {r : Int} (hr : 1 ≤ r ∧ r ≤ 1000000) {E : Dk} (hE : E.now = (putAll D.now (hbase D.now.length (num + 1)) (frameL (num + 1) r (0 : Nat) b)).set (placeN (num + 1)) (mkS (headL (num + 1)))) :
    SIc E (num + 1) ⟨num + 1, r, hbase D.now.length (num + 1) + partsN b.length, hbase D.now.length (num + 1) + hsize D.now.length, 1, false⟩ b [] := by
  have hu := h.u32
  have h0 := h.n0
  have hFl := frameL_len (gen := num + 1) (round := r) (seq := (0 : Nat)) (b := b)
  have h64 : ∀ s ∈ frameL (num + 1) r (0 : Nat) b, s.length = 64 ∧ Oct s := fun s hs => ⟨frameL_64 hs, frameL_oct hu (by unfold U32; omega) (by unfold U32; omega) hb ho hs⟩
  have h6 := h.n6
  have hfit := hbase_fits (m := D.now.length) (num + 1) (by omega)
  have hb2 := hbase_ge D.now.length (num + 1)
  have hpl := placeN_le (num + 1)
  have hlen : E.now.length = D.now.length := by rw [hE, List.length_set, putAll_len]
  have hget : ∀ i, E.now[i]? = if i = placeN (num + 1) then some (mkS (headL (num + 1))) else if hbase D.now.length (num + 1) ≤ i ∧ i < hbase D.now.length (num + 1) + (frameL (num + 1) r (0 : Nat) b).length then ((frameL (num + 1) r (0 : Nat) b)[i - hbase D.now.length (num + 1)]?).map mkS else D.now[i]? := fun i => by
    rw [hE]
    by_cases e : i = placeN (num + 1)
    · rw [if_pos e, e, List.getElem?_set_self (by rw [putAll_len]; omega)]
    · rw [if_neg e, List.getElem?_set_ne (fun e' => e e'.symm)]
      exact putAll_at _ _ _ i (by rw [hFl]; omega)
  have hhead : headD E (placeN (num + 1)) = num + 1 := by
    unfold headD
    rw [List.getD_eq_getElem?_getD, hget, if_pos rfl]
    show headN (secB (mkS (headL (num + 1)))) _ = _
    rw [secB_mk (headL_len _) (headL_oct hu), headN_yes (headL_len _) (by rw [headL_num]), headL_num, if_pos rfl]
  have hother : headD E (1 - placeN (num + 1)) < num + 1 := by
    have : headD E (1 - placeN (num + 1)) = headD D (1 - placeN (num + 1)) := by
      unfold headD
      rw [List.getD_eq_getElem?_getD, List.getD_eq_getElem?_getD, hget, if_neg (by omega), if_neg (by omega)]
    rw [this]
    have := h.hd (1 - placeN (num + 1)) (by omega)
    omega
  refine ⟨by rw [hlen]; exact h6, by rw [hlen]; exact h.n60, by omega, h.nu, hhead, hother, rfl, hr, by rw [hlen], by rw [hlen]; simp only; omega, by simp only; omega, rfl, rfl, ?_, fun i s g hi h2i hpt => ?_⟩
  · have hst : Stands (bgC E (num + 1)) (num + 1) ((0 : Nat) : Int) b (partsN b.length) := by
      refine ⟨r, by omega, by omega, hb, rfl, ?_⟩
      apply List.ext_getElem?
      intro j
      rw [List.getElem?_take]
      by_cases hj : j < partsN b.length
      · rw [if_pos hj]
        obtain ⟨x, hx⟩ : ∃ x, (frameL (num + 1) r (0 : Nat) b)[j]? = some x := ⟨_, List.getElem?_eq_getElem (by rw [hFl]; exact hj)⟩
        have hx64 := h64 x (List.mem_of_getElem? hx)
        have h9 : E.now[hbase D.now.length (num + 1) + j]? = some (mkS x) := by
          rw [hget, if_neg (by omega), if_pos (by rw [hFl]; omega), Nat.add_sub_cancel_left, hx]
          rfl
        unfold bgC
        rw [hlen, cont_of (by omega) h9, secB_mk hx64.1 hx64.2, hx]
      · rw [if_neg hj, List.getElem?_eq_none (by rw [hFl]; omega)]
    show Pre (bgC E (num + 1)) (num + 1) 0 [b] (hbase D.now.length (num + 1) + partsN b.length - hbase E.now.length (num + 1))
    rw [hlen, Nat.add_sub_cancel_left]
    exact ⟨partsN b.length, 0, hst, by omega, rfl⟩
  · rw [hget i, if_neg (by omega)] at hi
    by_cases hin : hbase D.now.length (num + 1) ≤ i ∧ i < hbase D.now.length (num + 1) + (frameL (num + 1) r (0 : Nat) b).length
    · rw [if_pos hin] at hi
      cases hf : (frameL (num + 1) r (0 : Nat) b)[i - hbase D.now.length (num + 1)]? with
      | none => rw [hf] at hi; cases hi
      | some x =>
        rw [hf] at hi
        have hs := Option.some.inj hi
        have hx := List.mem_of_getElem? hf
        rw [← hs, secB_mk (h64 x hx).1 (h64 x hx).2] at hpt ⊢
        obtain ⟨q, _, rfl⟩ := frameL_mem hx
        have hg := isPart_gen hpt
        rw [partB_round]
        rw [hFl] at hin
        exact ⟨by rw [hg]; exact Int.le_refl _, fun _ _ _ => ⟨Int.le_refl _, by simp only; omega⟩⟩
    · rw [if_neg hin] at hi
      rw [hFl] at hin
      rcases h.fr i s g hi h2i hpt with h1 | ⟨h1, h2, h3⟩
      · exact ⟨by omega, fun e => by omega⟩
      · refine ⟨by omega, fun _ h4 h5 => ?_⟩
        rw [hlen] at h4
        omega
theorem PS.bgK {k : Nat} (h : PS D num k) (hd : D.down = false) : bgK D (num + 1) = 0 := by
  have h6 := h.n6
  have h0 := h.n0
  have hfit := hbase_fits (m := D.now.length) (num + 1) (by omega)
  have hs := hsize_pos h6
  unfold Go.Proofs.YtkcighejmjgalaaDoor.bgK wrongK
  rw [if_neg (by omega), if_neg (by omega), hd]
  rfl
theorem PS.bgn (h : PS D num (partsN b.length)) (hd : D.down = false) (ha : D.armed = false) (hb : b.length ≤ 4000) (ho : Oct b) (hp : partsN b.length ≤ hsize D.now.length) :
    ∃ J' D', bgn D (num + 1) b = (0, J', D') ∧ SIc D' (num + 1) J' b [] ∧ D'.down = false ∧ D'.armed = false ∧ D'.now.length = D.now.length ∧ J'.fin - J'.next = hsize D.now.length - partsN b.length := by
  have hK := h.bgK hd
  have hl1 := h.late
  have hl0 := h.late0
  have h6 := h.n6
  have h0 := h.n0
  have hu := h.u32
  have hfit := hbase_fits (m := D.now.length) (num + 1) (by omega)
  have hb2 := hbase_ge D.now.length (num + 1)
  have hpl := placeN_le (num + 1)
  have hFl := frameL_len (gen := num + 1) (round := latest (bgC D (num + 1)) (num + 1) + 1) (seq := (0 : Nat)) (b := b)
  have h64 : ∀ s ∈ frameL (num + 1) (latest (bgC D (num + 1)) (num + 1) + 1) (0 : Nat) b, s.length = 64 ∧ Oct s := fun s hs => ⟨frameL_64 hs, frameL_oct hu (by unfold U32; omega) (by unfold U32; omega) hb ho hs⟩
  rcases wr_cases (frameL (num + 1) (latest (bgC D (num + 1)) (num + 1) + 1) (0 : Nat) b) D (hbase D.now.length (num + 1)) hd (fun s hs => (h64 s hs).1) (by rw [hFl]; omega) with ⟨D1, w1, w2, w3, w4, w5, w6⟩ | ⟨ha', _⟩
  · have hA : bgA D (num + 1) b = (0, ⟨num + 1, latest (bgC D (num + 1)) (num + 1) + 1, hbase D.now.length (num + 1) + partsN b.length, hbase D.now.length (num + 1) + hsize D.now.length, 1, false⟩, D1) := by
      unfold bgA Jk.append
      rw [if_neg (by omega)]
      show (if false = true then _ else _) = _
      rw [if_neg (by simp)]
      show (if hbase D.now.length (num + 1) + hsize D.now.length - hbase D.now.length (num + 1) < partsN b.length then _ else _) = _
      rw [if_neg (by omega)]
      show (if (wrAll (frameL (num + 1) (latest (bgC D (num + 1)) (num + 1) + 1) (0 : Nat) b) D (hbase D.now.length (num + 1))).1 ≠ 0 then _ else _) = _
      rw [w1, if_neg (by simp)]
      show (0, _, (wrAll (frameL (num + 1) (latest (bgC D (num + 1)) (num + 1) + 1) (0 : Nat) b) D (hbase D.now.length (num + 1))).2) = _
      rw [w1]
      rfl
    have hlen1 : D1.now.length = D.now.length := by rw [w4, putAll_len]
    have hW : bgW D (num + 1) b = (0, D1.put (placeN (num + 1)) (mkS (headL (num + 1)))) := by
      unfold bgW
      rw [hA]
      simp only
      have hreach : D1.reach (placeN (num + 1) : Int) = 0 := by
        unfold Dk.reach
        rw [w2, if_neg (by simp), if_neg (by omega)]
      unfold Dk.write
      rw [if_neg (by simp [hreach]), if_neg (by simp [headL_len]), if_neg (by rw [w6, ha]; simp), Int.toNat_natCast]
    have hS : (D1.put (placeN (num + 1)) (mkS (headL (num + 1)))).sync = (0, (D1.put (placeN (num + 1)) (mkS (headL (num + 1)))).settled (fun _ => true)) := by
      unfold Dk.sync
      rw [if_neg (by show ¬ D1.down = true; rw [w2]; simp)]
    refine ⟨⟨num + 1, latest (bgC D (num + 1)) (num + 1) + 1, hbase D.now.length (num + 1) + partsN b.length, hbase D.now.length (num + 1) + hsize D.now.length, 1, false⟩, (D1.put (placeN (num + 1)) (mkS (headL (num + 1)))).settled (fun _ => true), by rw [bgn_5 hK (by omega) (by rw [hA]) (by rw [hW]), hW, hS, hA], ?_, w2, by show D1.armed = false; rw [w6, ha], by show (D1.now.set _ _).length = _; rw [List.length_set, hlen1], by simp only; omega⟩
    exact h.make hb ho hp (by omega) (by show D1.now.set _ _ = _; rw [w4])
  · rw [ha] at ha'
    cases ha'
theorem SIc.compact (h : SIc D num J snap all) (hu : num + 1 < 4294967295) (hd : D.down = false) (ha : D.armed = false) (hb : b.length ≤ 4000) (ho : Oct b) :
    (∃ J' D', cpt D num false b = (0, J', D') ∧ SIc D' (num + 1) J' b [] ∧ D'.down = false ∧ D'.armed = false ∧ partsN b.length ≤ hsize D.now.length ∧ D'.now.length = D.now.length ∧ J'.fin - J'.next = hsize D.now.length - partsN b.length) ∨
    ((cpt D num false b).1 = 18 ∧ (cpt D num false b).2.2 = D ∧ hsize D.now.length < partsN b.length ∧ refK D.now.length num false b.length = 18) := by
  unfold cpt
  by_cases hp : hsize D.now.length < partsN b.length
  · have hr : refK D.now.length num false b.length = 18 := by
      unfold refK
      rw [if_neg (by omega), if_neg (by simp), if_neg (by omega), if_pos hp]
    rw [hr, if_pos (by simp)]
    exact .inr ⟨rfl, rfl, hp, rfl⟩
  · have hr : refK D.now.length num false b.length = 0 := by
      unfold refK
      rw [if_neg (by omega), if_neg (by simp), if_neg (by omega), if_neg hp]
    rw [hr, if_neg (by simp)]
    obtain ⟨J', D', e, s, d, a, l, r⟩ := (h.ps hu (partsN b.length)).bgn hd ha hb ho (by omega)
    exact .inl ⟨J', D', e, s, d, a, by omega, l, r⟩
/-- The first one, where there is no head. -/
theorem PS.first (h : PS D 0 1) (hd : D.down = false) (ha : D.armed = false) : ∃ J' D', cpt D 0 false [] = (0, J', D') ∧ SIc D' 1 J' [] [] ∧ D'.down = false ∧ D'.armed = false ∧ D'.now.length = D.now.length ∧ J'.fin - J'.next = hsize D.now.length - 1 := by
  have hs := hsize_pos h.n6
  have hr : refK D.now.length 0 false ([] : List Int).length = 0 := by
    unfold refK
    rw [if_neg (by simp), if_neg (by simp), if_neg (by simp), if_neg (by show ¬ hsize D.now.length < 1; omega)]
  have hk : PS D 0 (partsN ([] : List Int).length) := h
  obtain ⟨J', D', e, s, d, a, l, r⟩ := hk.bgn hd ha (by simp) Oct.nil (by show 1 ≤ _; omega)
  refine ⟨J', D', ?_, s, d, a, l, r⟩
  unfold cpt
  rw [hr, if_neg (by simp)]
  exact e
theorem PS.lat {k : Nat} (h : PS D 0 k) : latD D = 0 := by
  have h0 := h.hd 0 (by omega)
  have h1 := h.hd 1 (by omega)
  have h2 := (headD_u32 D 0).1
  have h3 := (headD_u32 D 1).1
  unfold latD
  omega
end
theorem headN_zs (i : Nat) : headN (secB zs) i = 0 := headN_no0 (by show (0 : Int) ≠ 94; omega)
theorem headN_ts (i : Nat) : headN (secB ts) i = 0 := headN_no (by show (0 : Nat) ≠ 64; omega)
theorem ts_nopart (g : Int) : isPart (secB ts) g = false := rfl
/-- A disk on which nothing but zeros, torn sectors and that one part stand. -/
theorem ps_of {D : Dk} (h6 : 6 ≤ D.now.length) (h60 : D.now.length ≤ 60) (hh : ∀ i s, D.now[i]? = some s → s = zs ∨ s = ts ∨ (i = 2 ∧ s = mkS (partB 1 1 0 0 1 []))) : PS D 0 1 := by
  have hp64 : (partB 1 1 0 0 1 []).length = 64 := by decide
  have hpo : Oct (partB 1 1 0 0 1 []) := partB_oct (by unfold U32; omega) (by unfold U32; omega) (by unfold U32; omega) (by omega) (by omega) (by simp) Oct.nil
  refine ⟨h6, h60, by omega, by omega, fun i hi => ?_, fun i s g hs h2 hp => ?_⟩
  · unfold headD
    rw [List.getD_eq_getElem?_getD]
    cases hx : D.now[i]? with
    | none =>
      show headN (secB zs) i ≤ 0
      rw [headN_zs]
      omega
    | some s =>
      show headN (secB s) i ≤ 0
      rcases hh i s hx with rfl | rfl | ⟨e, rfl⟩
      · rw [headN_zs]; omega
      · rw [headN_ts]; omega
      · omega
  · rcases hh i s hs with rfl | rfl | ⟨e, rfl⟩
    · rw [zero_nopart] at hp
      cases hp
    · rw [ts_nopart] at hp
      cases hp
    · rw [secB_mk hp64 hpo] at hp ⊢
      have hg := isPart_gen hp
      rw [partB_round]
      refine .inr ⟨by omega, by omega, ?_⟩
      have := hbase_ge D.now.length (0 + 1)
      omega
theorem ps_new {n : Nat} (h6 : 6 ≤ n) (h60 : n ≤ 60) : PS (newD n) 0 1 := by
  refine ps_of (by simp [newD]; exact h6) (by simp [newD]; exact h60) fun i s hs => .inl ?_
  have := List.mem_of_getElem? hs
  simp only [newD, List.mem_replicate] at this
  exact this.2
theorem hbase_one (m : Nat) : hbase m 1 = 2 := by
  unfold hbase placeN
  simp
theorem frame_first : frameL 1 1 (0 : Nat) [] = [partB 1 1 0 0 1 []] := by decide +kernel
/-- Whatever it was armed with. -/
theorem first_cases {n : Nat} (h6 : 6 ≤ n) (h60 : n ≤ 60) {x : Int} (hx : 0 ≤ x) (ks : List Bool) :
    (x < 2 ∧ (cpt ((newD n).arm x).2 0 false []).1 = 19 ∧ PS ((cpt ((newD n).arm x).2 0 false []).2.2.restart ks) 0 1) ∨
    (2 ≤ x ∧ (cpt ((newD n).arm x).2 0 false []).1 = 0 ∧ ∃ J, SIc ((cpt ((newD n).arm x).2 0 false []).2.2.restart ks) 1 J [] [] ∧ J.round = 1 ∧ J.fin - J.next = hsize n - 1 ∧ ((cpt ((newD n).arm x).2 0 false []).2.2.restart ks).now.length = n) := by
  have ha : ((newD n).arm x).2 = { newD n with armed := true, left := x } := by
    unfold Dk.arm
    rw [if_neg (by simp [newD]), if_neg (by omega)]
  rw [ha]
  obtain ⟨D0, hD0⟩ : ∃ D0 : Dk, D0 = { newD n with armed := true, left := x } := ⟨_, rfl⟩
  rw [← hD0]
  have hnow : D0.now = List.replicate n zs := by rw [hD0]; rfl
  have hgood : D0.good = List.replicate n zs := by rw [hD0]; rfl
  have hpend : D0.pend = [] := by rw [hD0]; rfl
  have hdown : D0.down = false := by rw [hD0]; rfl
  have harm : D0.armed = true := by rw [hD0]
  have hleft : D0.left = x := by rw [hD0]
  have hlen : D0.now.length = n := by rw [hnow, List.length_replicate]
  have hps : PS D0 0 1 := by
    have := ps_new h6 h60
    refine ps_of (by omega) (by omega) fun i s hs => .inl ?_
    rw [hnow] at hs
    exact (List.mem_replicate.1 (List.mem_of_getElem? hs)).2
  clear hD0 ha
  have hs2 := hsize_pos (m := D0.now.length) (by omega)
  have hr : refK D0.now.length 0 false ([] : List Int).length = 0 := by
    unfold refK
    rw [if_neg (by simp), if_neg (by simp), if_neg (by simp), if_neg (by show ¬ hsize D0.now.length < 1; omega)]
  have hcp : cpt D0 0 false [] = bgn D0 1 [] := by
    unfold cpt
    rw [hr, if_neg (by simp)]
    rfl
  rw [hcp]
  have hK : bgK D0 1 = 0 := hps.bgK hdown
  have hl : latest (bgC D0 1) 1 = 0 := by
    have h1 := fold_ge 1 (bgC D0 1) 0
    have h2 : latest (bgC D0 1) 1 ≤ 0 := latest_le (by omega) fun s hs hp => by
      obtain ⟨j, hj⟩ := List.mem_iff_getElem?.1 hs
      obtain ⟨_, y, hy, rfl⟩ := cont_get hj
      rw [hnow] at hy
      rw [(List.mem_replicate.1 (List.mem_of_getElem? hy)).2, zero_nopart] at hp
      cases hp
    exact Int.le_antisymm h2 h1
  have hl' : latest (bgC D0 1) 1 ≠ 4294967295 := by omega
  have hp64 : (partB 1 1 0 0 1 []).length = 64 := by decide
  have hJ : bgJ D0 1 = ⟨1, 1, 2, 2 + hsize D0.now.length, 0, false⟩ := by
    unfold bgJ beginJ
    rw [hl, hbase_one]
    rfl
  have hrd : ∀ (E : Dk) (i : Nat), E.down = false → i < E.now.length → E.reach (i : Int) = 0 := fun E i h1 h2 => by
    unfold Dk.reach
    rw [h1, if_neg (by simp), if_neg (by omega)]
  have hApp : ∀ (W : Int × Dk), wrAll [partB 1 1 0 0 1 []] D0 2 = W → bgA D0 1 [] = if W.1 ≠ 0 then (W.1, { bgJ D0 1 with failed := true }, W.2) else (0, { bgJ D0 1 with next := 3, count := 1 }, W.2) := fun W hW => by
    unfold bgA
    rw [hJ]
    unfold Jk.append
    rw [if_neg (by simp)]
    show (if false = true then _ else _) = _
    rw [if_neg (by simp)]
    show (if 2 + hsize D0.now.length - 2 < 1 then _ else _) = _
    rw [if_neg (by omega)]
    show (if (wrAll (frameL 1 1 (0 : Nat) []) D0 2).1 ≠ 0 then ((wrAll (frameL 1 1 (0 : Nat) []) D0 2).1, _, (wrAll (frameL 1 1 (0 : Nat) []) D0 2).2) else (0, _, (wrAll (frameL 1 1 (0 : Nat) []) D0 2).2)) = _
    rw [frame_first, hW]
    rfl
  by_cases hx0 : x = 0
  · left
    have hw : wrAll [partB 1 1 0 0 1 []] D0 2 = (19, D0.fall 2) := by
      have h1 : D0.write ((2 : Nat) : Int) (partB 1 1 0 0 1 []) = (19, D0.fall 2) := by
        unfold Dk.write
        rw [if_neg (by rw [hrd D0 2 hdown (by omega)]; simp), if_neg (by rw [hp64]; simp), if_pos ⟨harm, by omega⟩, Int.toNat_natCast]
      unfold wrAll
      rw [h1, if_pos (by simp)]
    have hA := hApp _ hw
    rw [if_pos (by simp)] at hA
    have hB : bgn D0 1 [] = bgA D0 1 [] := bgn_3 hK hl' (by rw [hA]; simp)
    rw [hB, hA]
    refine ⟨by omega, rfl, ?_⟩
    have hn : ((D0.fall 2).restart ks).now = settle (keeps ks) 0 [(2, ts)] (List.replicate n zs) := by
      show settle (keeps ks) 0 (D0.pend ++ [(2, ts)]) D0.good = _
      rw [hpend, hgood]
      rfl
    have hl2 : ((D0.fall 2).restart ks).now.length = n := by rw [hn, settle_len, List.length_replicate]
    refine ps_of (by rw [hl2]; exact h6) (by rw [hl2]; exact h60) fun i s hs => ?_
    rw [hn] at hs
    rcases settle_at _ _ _ _ _ _ hs with h1 | h1
    · exact .inl (List.mem_replicate.1 (List.mem_of_getElem? h1)).2
    · simp at h1
      exact .inr (.inl h1.2)
  · obtain ⟨D1, hD1⟩ : ∃ D1 : Dk, D1 = (D0.put 2 (mkS (partB 1 1 0 0 1 []))).settled (fun _ => true) := ⟨_, rfl⟩
    have hw : wrAll [partB 1 1 0 0 1 []] D0 2 = (0, D1) := by
      have h1 : D0.write ((2 : Nat) : Int) (partB 1 1 0 0 1 []) = (0, D0.put 2 (mkS (partB 1 1 0 0 1 []))) := by
        unfold Dk.write
        rw [if_neg (by rw [hrd D0 2 hdown (by omega)]; simp), if_neg (by rw [hp64]; simp), if_neg (by rw [hleft]; exact fun e => hx0 e.2), Int.toNat_natCast]
      unfold wrAll
      rw [h1, if_neg (by simp)]
      show (D0.put 2 (mkS (partB 1 1 0 0 1 []))).sync = _
      unfold Dk.sync
      rw [if_neg (by show ¬ D0.down = true; rw [hdown]; simp), hD1]
    have d1n : D1.now = (List.replicate n zs).set 2 (mkS (partB 1 1 0 0 1 [])) := by rw [hD1]; show D0.now.set 2 _ = _; rw [hnow]
    have d1g : D1.good = (List.replicate n zs).set 2 (mkS (partB 1 1 0 0 1 [])) := by
      rw [hD1]
      show settle _ 0 (D0.pend ++ [(2, mkS (partB 1 1 0 0 1 []))]) D0.good = _
      rw [hpend, hgood]
      rfl
    have d1p : D1.pend = [] := by rw [hD1]; rfl
    have d1d : D1.down = false := by rw [hD1]; exact hdown
    have d1a : D1.armed = true := by rw [hD1]; exact harm
    have d1l : D1.left = x - 1 := by
      rw [hD1]
      show (if D0.armed then D0.left - 1 else D0.left) = _
      rw [harm, hleft]
      rfl
    have hl1 : D1.now.length = n := by rw [d1n, List.length_set, List.length_replicate]
    have hA := hApp _ hw
    rw [if_neg (by simp)] at hA
    have hpl : placeN 1 = 0 := by decide
    clear hD1
    by_cases hx1 : x = 1
    · left
      have hW : bgW D0 1 [] = (19, D1.fall 0) := by
        unfold bgW
        rw [hA, hpl]
        show D1.write ((0 : Nat) : Int) (headL 1) = _
        unfold Dk.write
        rw [if_neg (by rw [hrd D1 0 d1d (by omega)]; simp), if_neg (by rw [headL_len]; simp), if_pos ⟨d1a, by omega⟩, Int.toNat_natCast]
      have hB := bgn_4 hK hl' (by rw [hA]) (l := []) (by rw [hW]; simp)
      rw [hB, hW]
      refine ⟨by omega, rfl, ?_⟩
      have hn : ((D1.fall 0).restart ks).now = settle (keeps ks) 0 [(0, ts)] ((List.replicate n zs).set 2 (mkS (partB 1 1 0 0 1 []))) := by
        show settle (keeps ks) 0 (D1.pend ++ [(0, ts)]) D1.good = _
        rw [d1p, d1g]
        rfl
      have hl2 : ((D1.fall 0).restart ks).now.length = n := by rw [hn, settle_len, List.length_set, List.length_replicate]
      refine ps_of (by rw [hl2]; exact h6) (by rw [hl2]; exact h60) fun i s hs => ?_
      rw [hn] at hs
      rcases settle_at _ _ _ _ _ _ hs with h1 | h1
      · by_cases e : i = 2
        · subst e
          rw [List.getElem?_set_self (by rw [List.length_replicate]; omega)] at h1
          exact .inr (.inr ⟨rfl, (Option.some.inj h1).symm⟩)
        · rw [List.getElem?_set_ne (fun e' => e e'.symm)] at h1
          exact .inl (List.mem_replicate.1 (List.mem_of_getElem? h1)).2
      · simp at h1
        exact .inr (.inl h1.2)
    · right
      have hW : bgW D0 1 [] = (0, D1.put 0 (mkS (headL 1))) := by
        unfold bgW
        rw [hA, hpl]
        show D1.write ((0 : Nat) : Int) (headL 1) = _
        unfold Dk.write
        rw [if_neg (by rw [hrd D1 0 d1d (by omega)]; simp), if_neg (by rw [headL_len]; simp), if_neg (by rw [d1l]; omega), Int.toNat_natCast]
      have hS : (D1.put 0 (mkS (headL 1))).sync = (0, (D1.put 0 (mkS (headL 1))).settled (fun _ => true)) := by
        unfold Dk.sync
        rw [if_neg (by show ¬ D1.down = true; rw [d1d]; simp)]
      have hB := bgn_5 hK hl' (by rw [hA]) (l := []) (by rw [hW])
      rw [hB, hW, hS]
      have hE : (((D1.put 0 (mkS (headL 1))).settled (fun _ => true)).restart ks).now = (putAll (newD n).now (hbase (newD n).now.length (0 + 1)) (frameL (0 + 1) 1 (0 : Nat) [])).set (placeN (0 + 1)) (mkS (headL (0 + 1))) := by
        show settle (keeps ks) 0 [] (settle (fun _ => true) 0 (D1.pend ++ [(0, mkS (headL 1))]) D1.good) = (putAll (newD n).now (hbase (newD n).now.length 1) (frameL 1 1 (0 : Nat) [])).set (placeN 1) (mkS (headL 1))
        rw [d1p, d1g, hbase_one, frame_first, hpl]
        rfl
      have hmk := PS.make (D := newD n) (num := 0) (b := []) (r := 1) (ps_new h6 h60) (by simp) Oct.nil (by show 1 ≤ hsize (newD n).now.length; rw [show (newD n).now.length = D0.now.length by rw [hlen]; simp [newD]]; omega) (by omega) hE
      have hnl : (newD n).now.length = n := by simp [newD]
      refine ⟨by omega, rfl, _, hmk, rfl, ?_, ?_⟩
      · show hbase (newD n).now.length 1 + hsize (newD n).now.length - (hbase (newD n).now.length 1 + 1) = _
        rw [hnl]
        omega
      · rw [hE, List.length_set, putAll_len, hnl]
end Go.Proofs.YtkcighejmjgalaaDoor
