/-
  The law's own reading of a stretch; a disk that nothing arms; what an Append leaves on it.
-/
import Derived.Test.YtngmgdngimnljaaStt
import Derived.Test.YtngmgdngimnljaaLawScans
namespace Go.Proofs.Ytngmgdngimnljaa
set_option linter.unusedVariables false
set_option linter.unusedSimpArgs false
set_option synthInstance.maxSize 20000
set_option maxHeartbeats 2000000
set_option maxRecDepth 20000
open Go.RowKit Go.Maps

/-- What Read tells of a sector. -/
theorem read_two {w : World} {o : Nat → Nat} {j b : Nat} {gv nv pv : Value} {D : Dk} (h : DAt w o j b gv nv pv D) (hd : D.down = false) {i : Nat} (hi : i < D.now.length) : Calls Try.prog 50 #[ptr b, .int .i64 (i : Int)] w fun r w' => (∃ v kd, r = .returned (.tuple #[v, .int .i64 kd]) ∧ (∃ a n c, v = .slice a n c) ∧ ((kd = 5 ∧ secB (D.now.getD i zs) = []) ∨ (kd = 0 ∧ OutR w.heap.size w' v (secB (D.now.getD i zs))))) ∧ Below w.heap.size w w' := by
  refine (read_any h (i : Int)).mono ?_
  rintro r w' ⟨v, rfl, ho, hb⟩
  refine ⟨⟨v, _, rfl, (readOut_new ho).2, ?_⟩, hb⟩
  have h9 := ho.rd
  have hn := (readOut_new ho).1
  rw [read_cont hd hi] at h9
  have h0 : D.reach (i : Int) = 0 := by
    unfold Dk.reach
    rw [hd]
    simp
    omega
  have hK : D.readK (i : Int) = if (D.readS (i : Int)).t then 5 else 0 := by unfold Dk.readK; simp [h0]
  have e : D.readS (i : Int) = D.now.getD i zs := by unfold Dk.readS; rw [Int.toNat_natCast]
  rw [e] at hK
  cases ht : (D.now.getD i zs).t
  · rw [ht] at hK
    exact .inr ⟨hK, h9, hn⟩
  · rw [ht] at hK
    exact .inl ⟨hK, by unfold secB; rw [ht]; rfl⟩

structure Gr2 (w wr : World) (v : Value) (rs : List VB) (L : List (List Int)) (i : Nat) : Prop where
  g : Grw w wr v rs i
  ll : LL rs = L.take i
theorem Gr2.step {w wr w1 w3 : World} {v v' ev : Value} {s : List Int} {rs : List VB} {L : List (List Int)} {i : Nat} (h : Gr2 w wr v rs L i) (hs : L[i]? = some s) (hb : Below wr.heap.size wr w1) (he : OutR wr.heap.size w1 ev s)
    (k1 : w3.ownsRow 0 23 1 v' (rs ++ [(ev, s)]).length (flat lc (rs ++ [(ev, s)]))) (k2 : (w1.alloc (.cells #[ev] 23)).grownBy w3 v.ownBlock) (k3 : ∀ j, v'.ownBlock = some j → v.ownBlock = some j ∨ (w1.alloc (.cells #[ev] 23)).heap.size ≤ j) :
    Gr2 w w3 v' (rs ++ [(ev, s)]) L (i + 1) := by
  refine ⟨h.g.step hb he k1 k2 k3, ?_⟩
  obtain ⟨h1, h2⟩ := List.getElem?_eq_some_iff.1 hs
  rw [List.take_succ_eq_append_getElem h1, ← h.ll, h2]
  simp [LL]
theorem sectors25 {w : World} {o : Nat → Nat} {j b : Nat} {D : Dk} (h : DIs w o j b D) (hd : D.down = false) {base size : Nat} (hbs : base + size ≤ D.now.length) (hl : D.now.length ≤ 400) : Calls Try.prog 25 #[ptr b, .int .i64 (base : Int), .int .i64 (size : Int)] w fun r w' => ∃ v, r = .returned v ∧ (∃ qs, RL w' v qs ∧ LL qs = cont D base size) ∧ Below w.heap.size w w' := by
  obtain ⟨gv, nv, pv, h⟩ := h
  have HRead : Hid (∀ wr (k : Nat), k < size → Below w.heap.size w wr → Calls Try.prog 50 #[ptr b, .int .i64 ((base : Int) + (k : Int))] wr fun r w' => (∃ v kd, r = .returned (.tuple #[v, .int .i64 kd]) ∧ (∃ a n c, v = .slice a n c) ∧ ((kd = 5 ∧ secB (D.now.getD (base + k) zs) = []) ∨ (kd = 0 ∧ OutR wr.heap.size w' v (secB (D.now.getD (base + k) zs))))) ∧ Below wr.heap.size wr w') := fun wr k hk hb => by
    have := read_two (h.below hb) hd (i := base + k) (by omega)
    rwa [Int.natCast_add] at this
  have HAt : Hid (∀ k, k < size → (cont D base size)[k]? = some (secB (D.now.getD (base + k) zs))) := fun k hk => cont_at hbs hk
  have hLn : (cont D base size).length = size := cont_len hbs
  have HLn : Hid ((cont D base size).length = size) := hLn
  have hsz : size ≤ 400 := by omega
  have hbz : base ≤ 400 := by omega
  generalize cont D base size = L at *
  clear h hLn hbs hl hd
  go_enter Try.func25, Try.ntmps25
  go_wp2
  go_loopw [7, 8] (fun sv kv wr => ∃ (k : Nat) (rs : List VB) (ra : Option Addr) (rc : Nat), k ≤ size ∧ kv = .int .i64 k ∧ sv = .slice ra k rc ∧ Hid (Gr2 w wr (.slice ra k rc) rs L k)) (fun _ kv _ => size - (intOf kv).toNat)
  case atStart => exact ⟨0, [], none, 0, Nat.zero_le _, rfl, rfl, grw_zero w, rfl⟩
  case round =>
    obtain ⟨k, rs, ra, rc, hk, rfl, rfl, hK⟩ := hrel
    have hrc := slice_of_own hK.out.g.rcs.own
    obtain ⟨ra', rc', hra, hrc1, hrc2⟩ := hrc
    obtain ⟨rfl, hx9, rfl⟩ : ra = ra' ∧ k = rs.length ∧ rc = rc' := by simpa using hra
    rw [hK.out.g.len] at hrc1
    clear hra hx9
    by_cases hlt : k < size
    · have HR := HRead.out wr k hlt hK.out.g.bel
      have hat := HAt.out k hlt
      generalize secB (D.now.getD (base + k) zs) = sec at *
      have HStep : Hid (∀ w1 w3 v' ev, Below wr.heap.size wr w1 → OutR wr.heap.size w1 ev sec → w3.ownsRow 0 23 1 v' (rs ++ [(ev, sec)]).length (flat lc (rs ++ [(ev, sec)])) → (w1.alloc (.cells #[ev] 23)).grownBy w3 (Value.slice ra k rc).ownBlock → (∀ j, v'.ownBlock = some j → (Value.slice ra k rc).ownBlock = some j ∨ (w1.alloc (.cells #[ev] 23)).heap.size ≤ j) → Gr2 w w3 v' (rs ++ [(ev, sec)]) L (k + 1)) := fun w1 w3 v' ev hb he k1 k2 k3 => hK.out.step hat hb he k1 k2 k3
      have HRow : Hid (∀ w1 ev, Below wr.heap.size wr w1 → (w1.alloc (.cells #[ev] 23)).ownsRow 0 23 1 (.slice ra k rc) rs.length (flat lc rs)) := fun w1 ev hb => ((hK.out.g.rcs.below hb).own).alloc _
      have HRL : Hid (rs.length = k) := hK.out.g.len
      clear hat
      go_wp2_with fail
      refine HR.mono ?_
      rintro r w2 ⟨⟨v2, kd, rfl, ⟨a2, n2, c2, hv2⟩, hcs⟩, hb2⟩
      subst hv2
      have HB2 : Hid (Below wr.heap.size wr w2) := hb2
      clear hb2 HR
      rcases hcs with ⟨hkd, hse⟩ | ⟨hkd, hou⟩
      · subst hkd
        have HOu : Hid (OutR wr.heap.size w2 (.slice none 0 0) sec) := by rw [hse]; exact outR_nil _ _
        clear hse
        go_wp2_with (at_builtin; go_must (refine wpList_append_rows ty25 lc_len (by omega) rfl (.tmp 26) (.tmp 28) rfl _ rs rfl (HRow.out w2 (.slice none 0 0) HB2.out) _ [(.slice none 0 0, sec)] rfl (rowF_one (f := lc) w2 (.slice none 0 0, sec) 23) (flat_lc_one _ (fun q hq => by simp at hq; subst hq; rfl)) (by have := HRL.out; simp; omega) ?_; intro v3 w3 k1 k2 k3; have HF3 : Hid (Gr2 w w3 v3 (rs ++ [(.slice none 0 0, sec)]) L (k + 1)) := HStep.out w2 w3 v3 _ HB2.out HOu.out k1 k2 k3; obtain ⟨a3, c3, hv3, hc31, hc32⟩ := slice_of_own k1; rw [lenR HRL.out] at hv3; subst hv3; clear k1 k2 k3))
        go_roundw
        case rel => exact ⟨k + 1, _, a3, c3, by omega, by go_num, rfl, HF3⟩
        case measure => simp [intOf]; omega
      · subst hkd
        have HOu : Hid (OutR wr.heap.size w2 (.slice a2 n2 c2) sec) := hou
        clear hou
        go_wp2_with (at_builtin; go_must (refine wpList_append_rows ty25 lc_len (by omega) rfl (.tmp 26) (.tmp 28) rfl _ rs rfl (HRow.out w2 (.slice a2 n2 c2) HB2.out) _ [(.slice a2 n2 c2, sec)] rfl (rowF_one (f := lc) w2 (.slice a2 n2 c2, sec) 23) (flat_lc_one _ (fun q hq => by simp at hq; subst hq; rfl)) (by have := HRL.out; simp; omega) ?_; intro v3 w3 k1 k2 k3; have HF3 : Hid (Gr2 w w3 v3 (rs ++ [(.slice a2 n2 c2, sec)]) L (k + 1)) := HStep.out w2 w3 v3 _ HB2.out HOu.out k1 k2 k3; obtain ⟨a3, c3, hv3, hc31, hc32⟩ := slice_of_own k1; rw [lenR HRL.out] at hv3; subst hv3; clear k1 k2 k3))
        go_roundw
        case rel => exact ⟨k + 1, _, a3, c3, by omega, by go_num, rfl, HF3⟩
        case measure => simp [intOf]; omega
    · obtain rfl : k = size := by omega
      have HD : Hid (∃ qs, RL wr (.slice ra k rc) qs ∧ LL qs = L) := ⟨rs, hK.out.g.rcs.rl, by rw [hK.out.ll, List.take_of_length_le (by rw [HLn.out]; omega)]⟩
      have HB : Hid (Below w.heap.size w wr) := hK.out.g.bel
      clear hK
      go_wp2
      go_ret
      exact ⟨_, rfl, HD.out, HB.out⟩

/-! ### A disk of forty that nothing arms -/
structure Fr (D : Dk) (N : Nat) : Prop where
  ok : DOk D N
  d : D.down = false
  a : D.armed = false
  n : D.now.length = 40
theorem fr_new : Fr (newD 40) 0 := ⟨newD_ok 40 (by omega) (by omega), rfl, rfl, by simp [newD]⟩
theorem Fr.mono {D : Dk} {N M : Nat} (h : Fr D N) (hN : N ≤ M) : Fr D M := ⟨h.ok.mono hN, h.d, h.a, h.n⟩
theorem Fr.write {D : Dk} {N : Nat} (h : Fr D N) (i : Int) (l : List Int) : Fr (D.write i l).2 (N + 1) := by
  refine ⟨h.ok.write, ?_, ?_, ?_⟩
  all_goals
    unfold Dk.write
    split
    · first | exact h.d | exact h.a | exact h.n
    · split
      · first | exact h.d | exact h.a | exact h.n
      · rw [if_neg (by simp [h.a])]
        first | exact h.d | exact h.a | (simp only [Dk.put, List.length_set]; exact h.n)
theorem Fr.sync {D : Dk} {N : Nat} (h : Fr D N) : Fr D.sync.2 N := by
  refine ⟨h.ok.sync, ?_, ?_, ?_⟩
  all_goals
    unfold Dk.sync
    rw [if_neg (by simp [h.d])]
    first | exact h.d | exact h.a | exact h.n
/-- What an Append does to it. -/
theorem append_free {D : Dk} {N : Nat} {J : Jk} {base size : Nat} (hf : Fr D N) (hok : JOk J) (hbase : base ≤ J.next) (hfin : J.fin = base + size) (hl : base + size ≤ 40) (hfl : J.failed = false) {b : List Int} (hb : b.length ≤ 4000) (ho : Oct b) :
    (∃ J' D', J.append D b = (0, J', D') ∧ Fr D' (N + 84) ∧ J.next + partsN b.length ≤ J.fin ∧
      (cont D' base size).take (J.next - base) = (cont D base size).take (J.next - base) ∧ ((cont D' base size).drop (J.next - base)).take (partsN b.length) = frameL J.gen J.round J.count b) ∨
    (J.append D b = (18, J, D) ∧ J.fin - J.next < partsN b.length) := by
  have hnf := hok.nf
  have h64 := frame64 hok hb ho
  have hFl := frameL_len (gen := J.gen) (round := J.round) (seq := J.count) (b := b)
  have hdk := append_dok (J := J) (D := D) (l := b) hf.ok
  have hn := hf.n
  unfold Jk.append at hdk ⊢
  rw [if_neg (by omega), if_neg (by simp [hfl])] at hdk ⊢
  by_cases hroom : J.fin - J.next < partsN b.length
  · rw [if_pos hroom]
    exact .inr ⟨rfl, hroom⟩
  · rw [if_neg hroom] at hdk ⊢
    rcases wr_cases (frameL J.gen J.round J.count b) D J.next hf.d (fun s hs => (h64 s hs).1) (by rw [hFl]; omega) with ⟨D', h1, h2, h3, h4, h5, h6⟩ | ⟨ha, _⟩
    · rw [h1] at hdk ⊢
      rw [if_neg (by simp)] at hdk ⊢
      refine .inl ⟨_, D', rfl, ⟨hdk, h2, by rw [h6, hf.a], by rw [h4, putAll_len, hn]⟩, by omega, ?_⟩
      have := cont_put (D := D) (D' := D') (base := base) (size := size) (t := J.next - base) (by rw [h4, show base + (J.next - base) = J.next by omega]) (by omega) (by rw [hFl]; omega) h64
      rw [hFl] at this
      exact ⟨this.1, this.2.1⟩
    · rw [hf.a] at ha
      cases ha
end Go.Proofs.Ytngmgdngimnljaa
