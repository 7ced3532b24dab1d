/-
  What JournalCrash keeps, act by act: lists alone.
-/
import Derived.Test.YtkcighejmjgalaaDoorCrM
namespace Go.Proofs.YtkcighejmjgalaaDoor
set_option linter.unusedVariables false
set_option linter.unusedSimpArgs false

/-- Nothing stands where the first sector is no part of that gen. -/
theorem stand_nopart {l : List (List Int)} {gen seq : Int} (h : ∀ s, l[0]? = some s → isPart s gen = false) : (stand l gen seq).2 = 0 := by
  refine stand_none.2 fun b n hs => ?_
  obtain ⟨r, _, _, hat⟩ := hs.at
  have h1 := h _ (hat 0 hs.pos)
  rw [isPart_part (chunk_len _ _)] at h1
  cases h1
/-- Nor where its seq is another one. -/
theorem stand_noseq {l : List (List Int)} {gen : Int} {seq : Nat} (h : ∀ s, l[0]? = some s → isPart s gen = true → num4 (s.drop 9) < (seq : Int)) : (stand l gen seq).2 = 0 := by
  refine stand_none.2 fun b n hs => ?_
  obtain ⟨r, _, _, hat⟩ := hs.at
  have h1 := h _ (hat 0 hs.pos) (isPart_part (chunk_len _ _))
  rw [partB_seq] at h1
  omega
theorem zero_nopart (gen : Int) : isPart (secB zs) gen = false := by
  have : (secB zs).getD 0 0 = 0 := rfl
  unfold isPart
  rw [this]
  simp
theorem new_cont {n base size j : Nat} {s : List Int} (h : (cont (newD n) base size)[j]? = some s) : s = secB zs := by
  obtain ⟨_, x, hx, rfl⟩ := cont_get h
  have := List.mem_of_getElem? hx
  simp only [newD, List.mem_replicate] at this
  rw [this.2]

theorem frame64 {J : Jk} (h : JOk J) {b : List Int} (hb : b.length ≤ 4000) (ho : Oct b) : ∀ s ∈ frameL J.gen J.round J.count b, s.length = 64 ∧ Oct s := fun s hs => by
  have h1 := h.cc
  have h2 := h.nf
  have h3 := h.ff
  exact ⟨frameL_64 hs, frameL_oct h.g h.r (by unfold U32; omega) hb ho hs⟩
/-- What an Append does to a disk on which nothing is pending. -/
theorem append_cases {D : Dk} {J : Jk} {base size : Nat} (hc : Clean D) (hok : JOk J) (hbase : base ≤ J.next) (hfin : J.fin = base + size) (hl : base + size ≤ D.now.length) (hf : J.failed = false) {b : List Int} (hb : b.length ≤ 4000) (ho : Oct b) :
    (∃ D', J.append D b = (0, { J with next := J.next + partsN b.length, count := J.count + 1 }, D') ∧ Clean D' ∧ D'.now.length = D.now.length ∧ D'.armed = D.armed ∧ J.next + partsN b.length ≤ J.fin ∧
      (cont D' base size).take (J.next - base) = (cont D base size).take (J.next - base) ∧ ((cont D' base size).drop (J.next - base)).take (partsN b.length) = frameL J.gen J.round J.count b ∧ (∀ j, J.next - base + partsN b.length ≤ j → (cont D' base size)[j]? = (cont D base size)[j]?)) ∨
    (J.append D b = (18, J, D) ∧ J.fin - J.next < partsN b.length) ∨
    (D.armed = true ∧ ∃ D' k, J.append D b = (19, { J with failed := true }, D') ∧ D'.down = true ∧ D'.good.length = D.now.length ∧ k < partsN b.length ∧
      ∀ ks, ∀ j s, (cont (D'.restart ks) base size)[j]? = some s → (cont D base size)[j]? = some s ∨ (∃ i, i < k ∧ j = J.next - base + i ∧ (frameL J.gen J.round J.count b)[i]? = some s) ∨ (j = J.next - base + k ∧ s = [])) := by
  have hnf := hok.nf
  have h64 := frame64 hok hb ho
  have hFl := frameL_len (gen := J.gen) (round := J.round) (seq := J.count) (b := b)
  unfold Jk.append
  rw [if_neg (by omega), if_neg (by simp [hf])]
  by_cases hroom : J.fin - J.next < partsN b.length
  · rw [if_pos hroom]
    exact .inr (.inl ⟨rfl, hroom⟩)
  · rw [if_neg hroom]
    rcases wr_cases (frameL J.gen J.round J.count b) D J.next hc.d (fun s hs => (h64 s hs).1) (by rw [hFl]; omega) with ⟨D', h1, h2, h3, h4, h5, h6⟩ | ⟨ha, k, hk, D', h1, h2, h3, h4⟩
    · refine .inl ⟨D', ?_, ⟨h3, ?_, h2⟩, by rw [h4, putAll_len], h6, by omega, ?_⟩
      · rw [h1, if_neg (by simp)]
      · rw [h5, h4, hc.p, List.nil_append, settle_put, hc.g]
      · have := cont_put (base := base) (size := size) (t := J.next - base) (by rw [h4, show base + (J.next - base) = J.next by omega]) hl (by rw [hFl]; omega) h64
        rw [hFl] at this
        exact this
    · refine .inr (.inr ⟨ha, D', k, ?_, h2, by rw [h3, hc.g], by rw [← hFl]; exact hk, fun ks => ?_⟩)
      · rw [h1, if_pos (by simp)]
      · exact cont_crash hc h3 (by rw [h4, show base + (J.next - base) = J.next by omega]) h64

structure CrI (D : Dk) (J : Jk) (want : List (List Int)) (size i : Nat) : Prop where
  cl : Clean D
  len : D.now.length = 60
  sz : 1 ≤ size ∧ size ≤ 60
  gen : J.gen = 7
  fin : J.fin = size
  ok : JOk J
  fl : J.failed = false
  cnt : J.count = want.length
  scn : scan (cont D 0 size) 7 = (want, J.next)
  top : ∀ (j : Nat) (s : List Int), (cont D 0 size)[j]? = some s → isPart s 7 = true → num4 (s.drop 5) ≤ J.round
  rnd : ∀ (j : Nat) (s : List Int), J.next ≤ j → (cont D 0 size)[j]? = some s → isPart s 7 = true → num4 (s.drop 5) < J.round
  seq : ∀ (j : Nat) (s : List Int), J.next ≤ j → (cont D 0 size)[j]? = some s → isPart s 7 = true → num4 (s.drop 9) ≤ J.count
  rr : J.round ≤ (i : Int) + 1
theorem wrong_clean {D : Dk} {size : Nat} (hc : Clean D) (hl : D.now.length = 60) (h1 : 1 ≤ size) (h2 : size ≤ 60) (gen : Int) (hg : gen ≠ 0) : wrongK D ((0 : Nat) : Int) (size : Int) gen = 0 := by
  unfold wrongK
  rw [if_neg (by omega), if_neg (by rw [hl]; omega), hc.d]
  rfl
/-- What was opened on a disk on which nothing is pending. -/
theorem crI_open {D : Dk} {size i : Nat} {want : List (List Int)} {t : Nat} (hc : Clean D) (hl : D.now.length = 60) (hs : 1 ≤ size ∧ size ≤ 60) (hscan : scan (cont D 0 size) 7 = (want, t)) (hr : latest (cont D 0 size) 7 ≤ (i : Int)) (hi : i ≤ 1000)
    (hseq : ∀ (j : Nat) (s : List Int), t ≤ j → (cont D 0 size)[j]? = some s → isPart s 7 = true → num4 (s.drop 9) ≤ want.length) : CrI D (openJ (cont D 0 size) 0 size 7) want size i := by
  have hok := openJ_ok (C := cont D 0 size) (base := 0) (size := size) (gen := 7) (by unfold U32; omega) (by omega) cont_oct (cont_len (by omega)) (by omega) (by omega)
  have hnx : (openJ (cont D 0 size) 0 size 7).next = t := by
    unfold openJ
    rw [hscan]
    exact Nat.zero_add t
  have hct : (openJ (cont D 0 size) 0 size 7).count = want.length := by
    unfold openJ
    rw [hscan]
  have hrd : (openJ (cont D 0 size) 0 size 7).round = latest (cont D 0 size) 7 + 1 := rfl
  refine ⟨hc, hl, hs, rfl, ?_, hok, rfl, hct, by rw [hnx]; exact hscan, fun j s h hp => ?_, fun j s _ h hp => ?_, fun j s hj h hp => ?_, by rw [hrd]; omega⟩
  · show 0 + size = size
    omega
  · have := latest_all (List.mem_of_getElem? h) hp
    rw [hrd]
    omega
  · have := latest_all (List.mem_of_getElem? h) hp
    rw [hrd]
    omega
  · rw [hct]
    exact hseq j s (by rw [hnx] at hj; exact hj) h hp
theorem new_scan (n size : Nat) (gen : Int) : scan (cont (newD n) 0 size) gen = ([], 0) := by
  refine Pre.stop (rs := []) (t := 0) rfl (stand_nopart fun s h => ?_)
  rw [List.getElem?_drop] at h
  rw [new_cont h]
  exact zero_nopart gen
theorem new_late (n size : Nat) (gen : Int) : latest (cont (newD n) 0 size) gen = 0 := by
  have h1 := fold_ge gen (cont (newD n) 0 size) 0
  have h2 : latest (cont (newD n) 0 size) gen ≤ 0 := latest_le (Int.le_refl _) (fun s hs hp => by
    obtain ⟨j, hj⟩ := List.mem_iff_getElem?.1 hs
    rw [new_cont hj, zero_nopart] at hp
    cases hp)
  have : 0 ≤ latest (cont (newD n) 0 size) gen := h1
  omega
theorem new_clean (n : Nat) : Clean (newD n) := ⟨rfl, rfl, rfl⟩
theorem crI_start {size : Nat} (hs : 1 ≤ size ∧ size ≤ 60) : CrI (newD 60) (openJ (cont (newD 60) 0 size) 0 size 7) [] size 0 :=
  crI_open (new_clean 60) (by simp [newD]) hs (new_scan 60 size 7) (by rw [new_late]; omega) (by omega) (fun j s _ h hp => by rw [new_cont h, zero_nopart] at hp; cases hp)
theorem arm_now (D : Dk) (n : Int) : (D.arm n).2.now = D.now ∧ (D.arm n).2.good = D.good ∧ (D.arm n).2.pend = D.pend ∧ (D.arm n).2.down = D.down := by
  unfold Dk.arm
  split
  · exact ⟨rfl, rfl, rfl, rfl⟩
  · split <;> exact ⟨rfl, rfl, rfl, rfl⟩
theorem cont_now {D E : Dk} (h : D.now = E.now) (base size : Nat) : cont D base size = cont E base size := by unfold cont; rw [h]
theorem Clean.arm {D : Dk} (h : Clean D) (n : Int) : Clean (D.arm n).2 := by
  obtain ⟨h1, h2, h3, h4⟩ := arm_now D n
  exact ⟨by rw [h3, h.p], by rw [h2, h1, h.g], by rw [h4, h.d]⟩
theorem CrI.arm {D : Dk} {J : Jk} {want : List (List Int)} {size i : Nat} (h : CrI D J want size i) (n : Int) : CrI (D.arm n).2 J want size i := by
  have e := cont_now (arm_now D n).1 0 size
  exact ⟨h.cl.arm n, by rw [(arm_now D n).1, h.len], h.sz, h.gen, h.fin, h.ok, h.fl, h.cnt, by rw [e]; exact h.scn, by rw [e]; exact h.top, by rw [e]; exact h.rnd, by rw [e]; exact h.seq, h.rr⟩
/-- An Append that came through. -/
theorem CrI.done {D D' : Dk} {J : Jk} {want : List (List Int)} {size i : Nat} {b : List Int} (h : CrI D J want size i) (hb : b.length ≤ 4000) (hc : Clean D') (hl : D'.now.length = D.now.length) (hroom : J.next + partsN b.length ≤ J.fin)
    (c1 : (cont D' 0 size).take J.next = (cont D 0 size).take J.next) (c2 : ((cont D' 0 size).drop J.next).take (partsN b.length) = frameL J.gen J.round J.count b) (c3 : ∀ j, J.next + partsN b.length ≤ j → (cont D' 0 size)[j]? = (cont D 0 size)[j]?) :
    CrI D' { J with next := J.next + partsN b.length, count := J.count + 1 } (want ++ [b]) size i := by
  have hnf := h.ok.nf
  have hcc := h.ok.cc
  have hpos := partsN_pos b.length
  have hpre : Pre (cont D 0 size) 7 0 want J.next := by
    have := scan_pre (cont D 0 size) 7
    rw [h.scn] at this
    exact this
  have hpre' := Pre.keep want _ _ 7 0 J.next hpre c1
  have hst : Stands ((cont D' 0 size).drop J.next) 7 ((0 + want.length : Nat) : Int) b (partsN b.length) := by
    refine ⟨J.round, h.ok.r0, by omega, hb, rfl, ?_⟩
    rw [c2, h.gen, h.cnt, Nat.zero_add]
  have hpre2 := Pre.snoc want _ 7 0 J.next (partsN b.length) b hpre' hst
  have hlen2 : (want ++ [b]).length = J.count + 1 := by rw [h.cnt]; simp
  have hC' : (cont D' 0 size).length = size := cont_len (by rw [hl, h.len]; have := h.sz.2; omega)
  have hFm : ∀ (j : Nat) (s : List Int), J.next ≤ j → j < J.next + partsN b.length → (cont D' 0 size)[j]? = some s → num4 (s.drop 5) = J.round := fun j s h1 h2 hs => by
    have e : (((cont D' 0 size).drop J.next).take (partsN b.length))[j - J.next]? = some s := by
      rw [List.getElem?_take, if_pos (by omega), List.getElem?_drop, show J.next + (j - J.next) = j by omega]
      exact hs
    rw [c2] at e
    obtain ⟨i', _, rfl⟩ := frameL_mem (List.mem_of_getElem? e)
    exact partB_round
  have hold : ∀ (j : Nat) (s : List Int), J.next + partsN b.length ≤ j → (cont D' 0 size)[j]? = some s → (cont D 0 size)[j]? = some s := fun j s hj hs => by rw [← c3 j hj]; exact hs
  refine ⟨hc, by rw [hl, h.len], h.sz, h.gen, h.fin, ⟨h.ok.g, h.ok.g0, h.ok.r, h.ok.r0, hroom, h.ok.ff, by simp only; omega⟩, h.fl, hlen2.symm, ?_, fun j s hs hp => ?_, fun j s hj hs hp => ?_, fun j s hj hs hp => ?_, h.rr⟩
  · refine Pre.stop hpre2 (stand_noseq fun s hs hp => ?_)
    rw [List.getElem?_drop] at hs
    have hs' : (cont D' 0 size)[J.next + partsN b.length + 0]? = some s := hs
    have := h.seq _ s (by omega) (hold _ s (by omega) hs') hp
    rw [hlen2]
    omega
  · by_cases h1 : j < J.next
    · have e : (cont D 0 size)[j]? = some s := by
        have := congrArg (fun z : List (List Int) => z[j]?) c1
        simp only [List.getElem?_take, if_pos h1] at this
        rw [← this]
        exact hs
      exact h.top j s e hp
    · by_cases h2 : j < J.next + partsN b.length
      · have := hFm j s (by omega) h2 hs
        simp only
        omega
      · exact h.top j s (hold j s (by omega) hs) hp
  · exact h.rnd j s (by simp only at hj; omega) (hold j s hj hs) hp
  · have := h.seq j s (by simp only at hj; omega) (hold j s hj hs) hp
    simp only
    omega
/-- Behind a crash in the midst of an Append, and any restart. -/
theorem CrI.crash {D D' : Dk} {J : Jk} {want : List (List Int)} {size i k : Nat} {b : List Int} (h : CrI D J want size i) (hi : i ≤ 900) (hk : k < partsN b.length) (hgl : D'.good.length = D.now.length) (ks : List Bool)
    (each : ∀ j s, (cont (D'.restart ks) 0 size)[j]? = some s → (cont D 0 size)[j]? = some s ∨ (∃ i, i < k ∧ j = J.next + i ∧ (frameL J.gen J.round J.count b)[i]? = some s) ∨ (j = J.next + k ∧ s = [])) :
    CrI (D'.restart ks) (openJ (cont (D'.restart ks) 0 size) 0 size 7) want size (i + 1) := by
  have hlen : (D'.restart ks).now.length = 60 := by
    have : (D'.restart ks).now.length = D'.good.length := by simp [Dk.restart, settle_len]
    rw [this, hgl, h.len]
  have hsz := h.sz
  have hL' : (cont (D'.restart ks) 0 size).length = size := cont_len (by omega)
  have hL : (cont D 0 size).length = size := cont_len (by rw [h.len]; omega)
  have hnf := h.ok.nf
  have hfin := h.fin
  have htake : (cont (D'.restart ks) 0 size).take J.next = (cont D 0 size).take J.next := by
    apply List.ext_getElem?
    intro j
    rw [List.getElem?_take, List.getElem?_take]
    split
    · rename_i hj
      obtain ⟨s, hs⟩ : ∃ s, (cont (D'.restart ks) 0 size)[j]? = some s := ⟨_, List.getElem?_eq_getElem (by omega)⟩
      rw [hs]
      rcases each j s hs with e | ⟨i', _, e, _⟩ | ⟨e, _⟩
      · exact e.symm
      · omega
      · omega
    · rfl
  have hpre : Pre (cont D 0 size) 7 0 want J.next := by
    have := scan_pre (cont D 0 size) 7
    rw [h.scn] at this
    exact this
  have hnone : (stand ((cont D 0 size).drop J.next) 7 (want.length : Nat)).2 = 0 := by
    have := (scan_end (cont D 0 size) 7).2
    rw [h.scn] at this
    exact this
  have hpart : ∀ {j : Nat} {s : List Int}, (cont (D'.restart ks) 0 size)[j]? = some s → isPart s 7 = true → (cont D 0 size)[j]? = some s ∨ (num4 (s.drop 5) = J.round ∧ num4 (s.drop 9) = J.count) := fun {j s} hs hp => by
    rcases each j s hs with e | ⟨i', _, _, e⟩ | ⟨_, rfl⟩
    · exact .inl e
    · obtain ⟨i'', _, rfl⟩ := frameL_mem (List.mem_of_getElem? e)
      exact .inr ⟨partB_round, partB_seq⟩
    · cases hp
  have hscan : scan (cont (D'.restart ks) 0 size) 7 = (want, J.next) := by
    refine Pre.stop (Pre.keep want _ _ 7 0 J.next hpre htake) ?_
    rw [h.gen, h.cnt] at each
    exact crash_none hk each h.rnd hnone
  have hr0 : 0 ≤ J.round := h.ok.r.1
  have hrr := h.rr
  refine crI_open (restart_clean D' ks) hlen h.sz hscan (latest_le (by omega) fun s hs hp => ?_) (by omega) (fun j s hj hs hp => ?_)
  · obtain ⟨j, hj⟩ := List.mem_iff_getElem?.1 hs
    rcases hpart hj hp with e | e
    · have := h.top j s e hp
      omega
    · omega
  · rcases hpart hs hp with e | e
    · have := h.seq j s hj e hp
      rw [h.cnt] at this
      exact this
    · rw [e.2, h.cnt]
      exact Int.le_refl _
theorem CrI.late {D : Dk} {size : Nat} {want : List (List Int)} {i : Nat} (h : CrI D (openJ (cont D 0 size) 0 size 7) want size i) (hi : i ≤ 1000) : latest (cont D 0 size) 7 ≠ 4294967295 := by
  have h1 : (openJ (cont D 0 size) 0 size 7).round = latest (cont D 0 size) 7 + 1 := rfl
  have h2 := h.rr
  omega
/-- Whatever the journal: what Open finds. -/
theorem CrI.late' {D : Dk} {J : Jk} {size : Nat} {want : List (List Int)} {i : Nat} (h : CrI D J want size i) (hi : i ≤ 1000) : latest (cont D 0 size) 7 ≠ 4294967295 := by
  have h2 := h.rr
  have h0 : 0 ≤ J.round := h.ok.r.1
  have := latest_le (l := cont D 0 size) (gen := 7) h0 (fun s hs hp => by
    obtain ⟨j, hj⟩ := List.mem_iff_getElem?.1 hs
    exact h.top j s hj hp)
  omega
end Go.Proofs.YtkcighejmjgalaaDoor
