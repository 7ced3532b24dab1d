/-
  What JournalGens keeps: lists alone.
-/
import Derived.Test.YtngmgdngimnljaaStt
namespace Go.Proofs.Ytngmgdngimnljaa
set_option linter.unusedVariables false
set_option linter.unusedSimpArgs false

theorem part_gen {gen R seq g : Int} {b s : List Int} (h : s ∈ frameL gen R seq b) (hp : isPart s g = true) : g = gen ∧ num4 (s.drop 5) = R := by
  obtain ⟨i, _, rfl⟩ := frameL_mem h
  refine ⟨?_, partB_round⟩
  simp only [isPart, Bool.and_eq_true, decide_eq_true_eq] at hp
  rw [← hp.2, partB_gen]
/-- Each sector behind an Append that came through: as it was, or one of the record's. -/
theorem put_each {C C' F : List (List Int)} {t n : Nat} (c1 : C'.take t = C.take t) (c2 : (C'.drop t).take n = F) (c3 : ∀ j, t + n ≤ j → C'[j]? = C[j]?) {j : Nat} {s : List Int} (hs : C'[j]? = some s) : C[j]? = some s ∨ s ∈ F := by
  by_cases h1 : j < t
  · refine .inl ?_
    have := congrArg (fun z : List (List Int) => z[j]?) c1
    simp only [List.getElem?_take, if_pos h1] at this
    rw [← this]
    exact hs
  · by_cases h2 : j < t + n
    · refine .inr (List.mem_of_getElem? (i := j - t) ?_)
      rw [← c2, List.getElem?_take, if_pos (by omega), List.getElem?_drop, show t + (j - t) = j by omega]
      exact hs
    · refine .inl ?_
      rw [← c3 j (by omega)]
      exact hs

structure GI1 (D : Dk) (J : Jk) : Prop where
  cl : Clean D
  len : D.now.length = 60
  ok : JOk J
  gen : J.gen = 7
  rd : J.round = 1
  fin : J.fin = 60
  fl : J.failed = false
  arm : D.armed = false
  sec : ∀ (j : Nat) (s : List Int), (cont D 0 60)[j]? = some s → ∀ g, isPart s g = true → g = 7 ∧ num4 (s.drop 5) = 1
theorem gi1_start : GI1 (newD 60) (openJ (cont (newD 60) 0 60) 0 60 7) := by
  have h := crI_start (size := 60) (by omega)
  refine ⟨h.cl, h.len, h.ok, h.gen, ?_, h.fin, h.fl, rfl, fun j s hs g hp => ?_⟩
  · show latest (cont (newD 60) 0 60) 7 + 1 = 1
    rw [new_late]
    rfl
  · rw [new_cont hs, zero_nopart] at hp
    cases hp
theorem GI1.append {D : Dk} {J : Jk} (h : GI1 D J) {b : List Int} (hb : b.length ≤ 4000) (ho : Oct b) : GI1 (J.append D b).2.2 (J.append D b).2.1 := by
  rcases append_cases (base := 0) (size := 60) h.cl h.ok (Nat.zero_le _) (by rw [h.fin]) (by rw [h.len]; omega) h.fl hb ho with ⟨D', e, hc, hl, ha, hroom, c1, c2, c3⟩ | ⟨e, _⟩ | ⟨ha, _⟩
  · rw [e]
    have hcc := h.ok.cc
    have hpos := partsN_pos b.length
    refine ⟨hc, by rw [hl, h.len], ⟨h.ok.g, h.ok.g0, h.ok.r, h.ok.r0, hroom, h.ok.ff, by simp only; omega⟩, h.gen, h.rd, h.fin, h.fl, by rw [ha, h.arm], fun j s hs g hp => ?_⟩
    rcases put_each c1 c2 c3 hs with h1 | h1
    · exact h.sec j s h1 g hp
    · have := part_gen h1 hp
      rw [h.gen, h.rd] at this
      exact this
  · rw [e]
    exact h
  · rw [h.arm] at ha
    cases ha
theorem GI1.scan8 {D : Dk} {J : Jk} (h : GI1 D J) : scan (cont D 0 60) 8 = ([], 0) := by
  refine Pre.stop (rs := []) (t := 0) rfl (stand_nopart fun s hs => ?_)
  rw [List.getElem?_drop] at hs
  cases hp : isPart s 8 with
  | false => rfl
  | true =>
    have := (h.sec _ s hs 8 hp).1
    omega
theorem GI1.late {D : Dk} {J : Jk} (h : GI1 D J) (g : Int) : latest (cont D 0 60) g ≤ 1 := latest_le (by omega) (fun s hs hp => by
  obtain ⟨j, hj⟩ := List.mem_iff_getElem?.1 hs
  have := (h.sec j s hj g hp).2
  omega)

structure GI4 (D : Dk) (J : Jk) (want : List (List Int)) (g : Int) : Prop where
  cl : Clean D
  len : D.now.length = 60
  ok : JOk J
  gen : J.gen = g
  rd : J.round ≤ 2
  fin : J.fin = 60
  fl : J.failed = false
  cnt : J.count = want.length
  pre : Pre (cont D 0 60) g 0 want J.next
  top : ∀ (j : Nat) (s : List Int), (cont D 0 60)[j]? = some s → isPart s g = true → num4 (s.drop 5) ≤ 2
  old8 : g = 8 → ∀ (j : Nat) (s : List Int), J.next ≤ j → (cont D 0 60)[j]? = some s → isPart s 8 = false
theorem GI1.create {D : Dk} {J : Jk} (h : GI1 D J) {g : Int} (hg : g = 7 ∨ g = 8) : GI4 D (beginJ (cont D 0 60) 0 60 g) [] g := by
  have hla := h.late g
  have hl0 := fold_ge g (cont D 0 60) 0
  have hl0' : 0 ≤ latest (cont D 0 60) g := hl0
  refine ⟨h.cl, h.len, beginJ_ok (by unfold U32; omega) (by omega) cont_oct (by omega) (by omega), rfl, ?_, rfl, rfl, rfl, rfl, fun j s hs hp => ?_, fun h8 j s _ hs => ?_⟩
  · show latest (cont D 0 60) g + 1 ≤ 2
    omega
  · have := (h.sec j s hs g hp).2
    omega
  · cases hp : isPart s 8 with
    | false => rfl
    | true =>
      have := (h.sec _ s hs 8 hp).1
      omega
theorem GI4.arm {D : Dk} {J : Jk} {want : List (List Int)} {g : Int} (h : GI4 D J want g) (n : Int) : GI4 (D.arm n).2 J want g := by
  have e := cont_now (arm_now D n).1 0 60
  exact ⟨h.cl.arm n, by rw [(arm_now D n).1, h.len], h.ok, h.gen, h.rd, h.fin, h.fl, h.cnt, by rw [e]; exact h.pre, by rw [e]; exact h.top, by rw [e]; exact h.old8⟩
/-- What an Append of the journal that was made anew leaves. -/
theorem GI4.cases {D : Dk} {J : Jk} {want : List (List Int)} {g : Int} (h : GI4 D J want g) {b : List Int} (hb : b.length ≤ 4000) (ho : Oct b) :
    ((J.append D b).1 = 0 ∧ GI4 (J.append D b).2.2 (J.append D b).2.1 (want ++ [b]) g) ∨ ((J.append D b).1 = 18 ∧ (J.append D b).2.2.down = false) ∨
    ((J.append D b).1 = 19 ∧ (J.append D b).2.2.down = true ∧ ∀ ks, Clean ((J.append D b).2.2.restart ks) ∧ ((J.append D b).2.2.restart ks).now.length = 60 ∧ latest (cont ((J.append D b).2.2.restart ks) 0 60) g ≤ 2 ∧ (∃ more, (scan (cont ((J.append D b).2.2.restart ks) 0 60) g).1 = want ++ more) ∧ (g = 8 → (scan (cont ((J.append D b).2.2.restart ks) 0 60) g).1 = want)) := by
  have hcc := h.ok.cc
  have hnf := h.ok.nf
  have hfin := h.fin
  have hpos := partsN_pos b.length
  rcases append_cases (base := 0) (size := 60) h.cl h.ok (Nat.zero_le _) (by rw [h.fin]) (by rw [h.len]; omega) h.fl hb ho with ⟨D', e, hc, hl, ha, hroom, c1, c2, c3⟩ | ⟨e, _⟩ | ⟨ha, D', k, e, hdn, hgl, hk, each⟩
  · rw [e]
    refine .inl ⟨rfl, ?_⟩
    have hst : Stands ((cont D' 0 60).drop J.next) g ((0 + want.length : Nat) : Int) b (partsN b.length) := by
      refine ⟨J.round, h.ok.r0, by rw [← h.gen]; exact h.ok.g0, hb, rfl, ?_⟩
      rw [← h.gen, Nat.zero_add, ← h.cnt]
      exact c2
    have hpre := Pre.snoc want _ g 0 J.next (partsN b.length) b (Pre.keep want _ _ g 0 J.next h.pre c1) hst
    refine ⟨hc, by rw [hl, h.len], ⟨h.ok.g, h.ok.g0, h.ok.r, h.ok.r0, hroom, h.ok.ff, by simp only; omega⟩, h.gen, h.rd, h.fin, h.fl, by simp [h.cnt], hpre, fun j s hs hp => ?_, fun h8 j s hj hs => ?_⟩
    · rcases put_each c1 c2 c3 hs with h1 | h1
      · exact h.top j s h1 hp
      · have := (part_gen h1 hp).2
        have := h.rd
        omega
    · refine h.old8 h8 j s (by simp only at hj; omega) ?_
      rw [← c3 j hj]
      exact hs
  · rw [e]
    exact .inr (.inl ⟨rfl, h.cl.d⟩)
  · rw [e]
    refine .inr (.inr ⟨rfl, hdn, fun ks => ?_⟩)
    simp only
    have each := each ks
    have hlen : (D'.restart ks).now.length = 60 := by
      have : (D'.restart ks).now.length = D'.good.length := by simp [Dk.restart, settle_len]
      rw [this, hgl, h.len]
    have hL' : (cont (D'.restart ks) 0 60).length = 60 := cont_len (by omega)
    have hL : (cont D 0 60).length = 60 := cont_len (by rw [h.len]; omega)
    have htake : (cont (D'.restart ks) 0 60).take J.next = (cont D 0 60).take J.next := by
      apply List.ext_getElem?
      intro j
      rw [List.getElem?_take, List.getElem?_take]
      split
      · rename_i hj
        obtain ⟨s, hs⟩ : ∃ s, (cont (D'.restart ks) 0 60)[j]? = some s := ⟨_, List.getElem?_eq_getElem (by omega)⟩
        rw [hs]
        rcases each j s hs with e | ⟨i', _, e, _⟩ | ⟨e, _⟩
        · exact e.symm
        · omega
        · omega
      · rfl
    have hpre := Pre.keep want _ _ g 0 J.next h.pre htake
    refine ⟨restart_clean D' ks, hlen, latest_le (by omega) fun s hs hp => ?_, hpre.more, fun h8 => ?_⟩
    · obtain ⟨j, hj⟩ := List.mem_iff_getElem?.1 hs
      rcases each j s hj with e | ⟨i', _, _, e⟩ | ⟨_, rfl⟩
      · exact h.top j s e hp
      · have := (part_gen (List.mem_of_getElem? e) hp).2
        have := h.rd
        omega
      · cases hp
    · have hold := h.old8 h8
      have hstop : scan (cont (D'.restart ks) 0 60) g = (want, J.next) := by
        refine hpre.stop ?_
        rw [h.gen, h.cnt] at each
        refine crash_none hk each (fun j s hj hs hp => ?_) ?_
        · rw [h8] at hp
          rw [hold j s (by simpa using hj) hs] at hp
          cases hp
        · refine stand_nopart fun s hs => ?_
          rw [List.getElem?_drop] at hs
          rw [h8]
          exact hold _ s (by omega) hs
      rw [hstop]
end Go.Proofs.Ytngmgdngimnljaa
