/-
  A disk, a journal on it and a list of what was appended, beside each other in memory (JSt); every call told of it. lightActs.
-/
import Derived.Test.YtngmgdngimnljaaCrI
import Derived.Test.YtngmgdngimnljaaAlv
import Derived.Test.YtngmgdngimnljaaRef1
import Derived.Test.YtngmgdngimnljaaArgsJ
namespace Go.Proofs.Ytngmgdngimnljaa
set_option linter.unusedVariables false
set_option linter.unusedSimpArgs false
set_option synthInstance.maxSize 20000
set_option maxHeartbeats 2000000
set_option maxRecDepth 20000
open Go.RowKit Go.Maps

/-- A list that grows, of bytes that stay. Its row is 9's. -/
structure WantAt (w : World) (o : Nat → Nat) (v : Value) (qs : List VB) : Prop where
  own : w.ownsRow 0 23 1 v qs.length (flat lc qs)
  rd : ∀ q ∈ qs, Rd w q.1 q.2
  ow : ∀ k, v.ownBlock = some k → o k = 9
  el : ∀ q ∈ qs, q.2 ≠ [] → ∀ k, q.1.ownBlock = some k → o k = 0
theorem want_nil (w : World) (o : Nat → Nat) : WantAt w o nilv [] := ⟨World.ownsRow_nil _ _ _ _, (fun q hq => by cases hq), (fun k hk => by cases hk), fun q hq => by cases hq⟩
theorem WantAt.rl {w : World} {o : Nat → Nat} {v : Value} {qs : List VB} (h : WantAt w o v qs) : RL w v qs := ⟨rowF_own lc_len h.own, h.rd⟩
theorem WantAt.mv {I : List Nat} {w w' : World} {o o' : Nat → Nat} {v : Value} {qs : List VB} (h : WantAt w o v qs) (m : Mv I w o w' o') (h9 : 9 ∉ I) (h0 : 0 ∉ I) : WantAt w' o' v qs :=
  ⟨ownsRow_block h.own (fun k hk => m.block k (h.own.lt k hk).2 (by rw [h.ow k hk]; exact h9)), fun q hq => (h.rd q hq).blocks (fun hl k hk hlt => m.block k hlt (by rw [h.el q hq hl k hk]; exact h0)),
    fun k hk => by rw [m.ext k (h.own.lt k hk).2]; exact h.ow k hk, fun q hq hl k hk => by rw [m.ext k ((h.rd q hq).blockLt hl k hk)]; exact h.el q hq hl k hk⟩
theorem WantAt.add {w w3 : World} {o : Nat → Nat} {v v' ev : Value} {eb : List Int} {qs : List VB} (h : WantAt w o v qs) (he : Rd w ev eb) (h0 : eb ≠ [] → ∀ k, ev.ownBlock = some k → o k = 0)
    (k1 : w3.ownsRow 0 23 1 v' (qs ++ [(ev, eb)]).length (flat lc (qs ++ [(ev, eb)]))) (k2 : (w.alloc (.cells #[ev] 23)).grownBy w3 v.ownBlock) (k3 : ∀ j, v'.ownBlock = some j → v.ownBlock = some j ∨ (w.alloc (.cells #[ev] 23)).heap.size ≤ j) :
    ∃ o3, WantAt w3 o3 v' (qs ++ [(ev, eb)]) ∧ Mv [9] w o w3 o3 := by
  have hb2 : Below w.heap.size w (w.alloc (.cells #[ev] 23)) := balloc (Below.refl _ _) _
  have hsz : w.heap.size ≤ (w.alloc (.cells #[ev] 23)).heap.size := hb2.size
  have hg : w.grownBy w3 v.ownBlock := grown_none (below_grown hb2) k2
  have hm : Mv [9] w o w3 (newBy o w (fun k => if v'.ownBlock = some k then 9 else 0)) := Mv.of_turn' _ (turn_grown hg) (fun k hk hlt => by
    cases hv : v.ownBlock with
    | none => rw [hv] at hk; cases hk
    | some c =>
      rw [hv] at hk
      simp at hk
      subst hk
      rw [h.ow _ hv]
      simp)
  refine ⟨_, ⟨k1, fun q hq => ?_, fun k hk => ?_, fun q hq hl k hk => ?_⟩, hm⟩
  · rcases List.mem_append.1 hq with hq | hq
    · exact (h.rd q hq).blocks (fun hl k hk hlt => hm.block k hlt (by rw [h.el q hq hl k hk]; simp))
    · simp at hq
      subst hq
      exact he.blocks (fun hl k hk hlt => hm.block k hlt (by rw [h0 hl k hk]; simp))
  · rcases k3 k hk with h9 | h9
    · rw [newBy_old (h.own.lt k h9).2]
      exact h.ow k h9
    · rw [newBy_new (by omega), if_pos hk]
  · rcases List.mem_append.1 hq with hq | hq
    · rw [newBy_old ((h.rd q hq).blockLt hl k hk)]
      exact h.el q hq hl k hk
    · simp at hq
      subst hq
      rw [newBy_old (he.blockLt hl k hk)]
      exact h0 hl k hk

structure JSt (w wr : World) (o : Nat → Nat) (db jb : Nat) (D : Dk) (J : Jk) (wv : Value) (ws : List VB) (N : Nat) : Prop where
  dis : DIs wr o 5 db D
  jat : JAt wr o 7 jb db J
  dok : DOk D N
  wnt : WantAt wr o wv ws
  mv : Mv [5, 7, 9] w zo wr o
theorem append_dok' {J : Jk} {D : Dk} {l : List Int} {N : Nat} (h : DOk D N) : DOk (J.append D l).2.2 (N + partsN l.length) := by
  unfold Jk.append
  split
  · exact h.mono (by omega)
  · split
    · exact h.mono (by omega)
    · split
      · exact h.mono (by omega)
      · have h1 := wrAll_ok (frameL J.gen J.round J.count l) D J.next N h
        rw [frameL_len] at h1
        split
        · exact h1
        · exact h1
section
variable {w wr : World} {o : Nat → Nat} {db jb : Nat} {D : Dk} {J : Jk} {wv : Value} {ws : List VB} {N : Nat}
theorem JSt.bel (h : JSt w wr o db jb D J wv ws N) : Below w.heap.size w wr := mvz_below h.mv (by simp)
theorem JSt.below (h : JSt w wr o db jb D J wv ws N) {w' : World} (hb : Below wr.heap.size wr w') : JSt w w' (newTo o wr 0) db jb D J wv ws N :=
  ⟨h.dis.mv (Mv.of_below (I := []) 0 hb) (by simp), h.jat.mv (Mv.of_below (I := []) 0 hb) (by simp), h.dok, h.wnt.mv (Mv.of_below (I := []) 0 hb) (by simp) (by simp), h.mv.trans (Mv.of_below 0 hb)⟩
theorem JSt.arm (h : JSt w wr o db jb D J wv ws N) (n : Int) (hn : n ≤ 9223372036854775807) : Calls Try.prog 32 #[ptr db, .int .i64 n] wr fun r w' => ∃ c, r = .returned (.int .i64 c) ∧ ∃ o', JSt w w' o' db jb (D.arm n).2 J wv ws N := by
  obtain ⟨g, nn, p, hd⟩ := h.dis
  refine (arm_any hd n).mono ?_
  rintro r w' ⟨rfl, o', d', m'⟩
  exact ⟨_, rfl, o', d', h.jat.mv m' (by simp), h.dok.arm hn, h.wnt.mv m' (by simp) (by simp), h.mv.trans (m'.widen (by simp))⟩
theorem JSt.room (h : JSt w wr o db jb D J wv ws N) (hok : JOk J) : Calls Try.prog 27 #[ptr jb] wr fun r w' => r = .returned (.int .i64 ((J.fin - J.next : Nat) : Int)) ∧ ∃ o', JSt w w' o' db jb D J wv ws N := by
  refine (room27 h.jat.blk hok).mono ?_
  rintro r w' ⟨rfl, hb⟩
  exact ⟨rfl, _, h.below hb⟩
theorem JSt.append (h : JSt w wr o db jb D J wv ws N) (hok : JOk J) (hN : N + 84 ≤ 2000) {bv : Value} {l : List Int} (hb : Rd w bv l) (hl : l.length ≤ 1000000) : Calls Try.prog 29 #[ptr jb, bv] wr fun r w' => r = .returned (.int .i64 (J.append D l).1) ∧ ∃ o', JSt w w' o' db jb (J.append D l).2.2 (J.append D l).2.1 wv ws (N + partsN l.length) := by
  refine (append29 h.jat hok h.dis h.dok hN (by omega) (by omega) (hb.below h.bel) hl).mono ?_
  rintro r w' ⟨rfl, o', j', d', m'⟩
  exact ⟨rfl, o', d', j', append_dok' h.dok, h.wnt.mv m' (by simp) (by simp), h.mv.trans (m'.widen (by simp))⟩
theorem JSt.down (h : JSt w wr o db jb D J wv ws N) : Calls Try.prog 33 #[ptr db] wr fun r w' => r = .returned (.bool D.down) ∧ w' = wr := by
  obtain ⟨g, nn, p, hd⟩ := h.dis
  exact down_any hd
theorem JSt.restart (h : JSt w wr o db jb D J wv ws N) (hN : N ≤ 2000) {kv : Value} {ks : List Bool} (hk : RowF bc w kv ks) : Calls Try.prog 34 #[ptr db, kv] wr fun r w' => r = .returned (.int .i64 0) ∧ ∃ o', JSt w w' o' db jb (D.restart ks) J wv ws N := by
  obtain ⟨g, nn, p, hd⟩ := h.dis
  refine (restart_any hd h.dok hN (fun w' o' m' => hk.below (mvz_below (h.mv.trans (m'.widen (by simp))) (by simp)))).mono ?_
  rintro r w' ⟨rfl, o', d', m'⟩
  exact ⟨rfl, o', d', h.jat.mv m' (by simp), h.dok.restart ks, h.wnt.mv m' (by simp) (by simp), h.mv.trans (m'.widen (by simp))⟩
theorem JSt.open (h : JSt w wr o db jb D J wv ws N) {base size : Nat} {gen : Int} (hg : U32 gen) (hk : wrongK D base size gen = 0) (hr : latest (cont D base size) gen ≠ 4294967295) : Calls Try.prog 23 #[ptr db, .int .i64 (base : Int), .int .i64 (size : Int), .int .u32 gen] wr fun r w' => ∃ jb' v, r = .returned (.tuple #[ptr jb', v, .int .i64 0]) ∧ ∃ o', JSt w w' o' db jb' D (openJ (cont D base size) base size gen) wv ws N ∧ KL w' o' v (scan (cont D base size) gen).1 := by
  refine (open_ok h.dis h.dok.few hg hk hr 7).mono ?_
  rintro r w' ⟨jb', v, rfl, o', j', k', m', _⟩
  exact ⟨jb', v, rfl, o', ⟨h.dis.mv m' (by simp), j', h.dok, h.wnt.mv m' (by simp) (by simp), h.mv.trans (m'.widen (by simp))⟩, k'⟩
theorem JSt.create (h : JSt w wr o db jb D J wv ws N) {base size : Nat} {gen : Int} (hg : U32 gen) (hk : wrongK D base size gen = 0) (hr : latest (cont D base size) gen ≠ 4294967295) : Calls Try.prog 24 #[ptr db, .int .i64 (base : Int), .int .i64 (size : Int), .int .u32 gen] wr fun r w' => ∃ jb', r = .returned (.tuple #[ptr jb', .int .i64 0]) ∧ ∃ o', JSt w w' o' db jb' D (beginJ (cont D base size) base size gen) wv ws N := by
  refine (create_ok h.dis h.dok.few hg hk hr 7).mono ?_
  rintro r w' ⟨jb', rfl, o', j', m', _⟩
  exact ⟨jb', rfl, o', h.dis.mv m' (by simp), j', h.dok, h.wnt.mv m' (by simp) (by simp), h.mv.trans (m'.widen (by simp))⟩
theorem JSt.lists (h : JSt w wr o db jb D J wv ws N) {v : Value} {L : List (List Int)} (hk : KL wr o v L) (hl : L.length ≤ 1000) : Calls Try.prog 12 #[v, wv] wr fun r w' => r = .returned (.bool (decide (L = LL ws))) ∧ ∃ o', JSt w w' o' db jb D J wv ws N := by
  obtain ⟨qs, k1, k2⟩ := hk
  refine (lists12 k1.rl h.wnt.rl (by rw [← LL_len, k2]; exact hl)).mono ?_
  rintro r w' ⟨rfl, hb⟩
  rw [k2]
  exact ⟨rfl, _, h.below hb⟩
/-- One more is wanted: bytes that came in. -/
theorem JSt.more (h : JSt w wr o db jb D J wv ws N) {w3 : World} {v' ev : Value} {eb : List Int} (he : Rd w ev eb)
    (k1 : w3.ownsRow 0 23 1 v' (ws ++ [(ev, eb)]).length (flat lc (ws ++ [(ev, eb)]))) (k2 : (wr.alloc (.cells #[ev] 23)).grownBy w3 wv.ownBlock) (k3 : ∀ j, v'.ownBlock = some j → wv.ownBlock = some j ∨ (wr.alloc (.cells #[ev] 23)).heap.size ≤ j) :
    ∃ o3, JSt w w3 o3 db jb D J v' (ws ++ [(ev, eb)]) N := by
  have h0 : eb ≠ [] → ∀ k, ev.ownBlock = some k → o k = 0 := fun hl k hk => by
    rw [h.mv.ext k (he.blockLt hl k hk)]
    rfl
  obtain ⟨o3, w1, m1⟩ := h.wnt.add (he.below h.bel) h0 k1 k2 k3
  exact ⟨o3, h.dis.mv m1 (by simp), h.jat.mv m1 (by simp), h.dok, w1, h.mv.trans (m1.widen (by simp))⟩
end
/-- A new disk, and nothing wanted yet. -/
structure JS0 (w wr : World) (o : Nat → Nat) (db : Nat) (D : Dk) (N : Nat) : Prop where
  dis : DIs wr o 5 db D
  dok : DOk D N
  mv : Mv [5, 7, 9] w zo wr o
theorem js0_new (w : World) : Calls Try.prog 19 #[.int .i64 60] w fun r w' => r = .returned (.tuple #[ptr (w.heap.size + 2), .int .i64 0]) ∧ ∃ o', JS0 w w' o' (w.heap.size + 2) (newD 60) 0 := by
  refine (dnew_any w zo 5 60 (by omega) (by omega) (by omega)).mono ?_
  rintro r w' ⟨rfl, hd, hb⟩
  exact ⟨rfl, _, hd, newD_ok 60 (by omega) (by omega), Mv.of_below 5 hb⟩
theorem JS0.open {w wr : World} {o : Nat → Nat} {db : Nat} {D : Dk} {N : Nat} (h : JS0 w wr o db D N) {base size : Nat} {gen : Int} (hg : U32 gen) (hk : wrongK D base size gen = 0) (hr : latest (cont D base size) gen ≠ 4294967295) : Calls Try.prog 23 #[ptr db, .int .i64 (base : Int), .int .i64 (size : Int), .int .u32 gen] wr fun r w' => ∃ jb' v, r = .returned (.tuple #[ptr jb', v, .int .i64 0]) ∧ ∃ o', JSt w w' o' db jb' D (openJ (cont D base size) base size gen) nilv [] N ∧ KL w' o' v (scan (cont D base size) gen).1 := by
  refine (open_ok h.dis h.dok.few hg hk hr 7).mono ?_
  rintro r w' ⟨jb', v, rfl, o', j', k', m', _⟩
  exact ⟨jb', v, rfl, o', ⟨h.dis.mv m' (by simp), j', h.dok, want_nil _ _, h.mv.trans (m'.widen (by simp))⟩, k'⟩

/-! ### lightActs -/
def lightA (qs : List ActJ) : Bool := decide (qs.length ≤ 30) && qs.all (fun q => decide (q.b.length ≤ 500) && decide (q.ks.length ≤ 60))
theorem lightA_true {qs : List ActJ} (h : lightA qs = true) : qs.length ≤ 30 ∧ ∀ q ∈ qs, q.b.length ≤ 500 ∧ q.ks.length ≤ 60 := by
  simp only [lightA, Bool.and_eq_true, decide_eq_true_eq, List.all_eq_true] at h
  exact h
theorem acc_cell {w : World} {a : Option Addr} {n cap : Nat} {qs : List ActJ} (h : RowF acc w (.slice a n cap) qs) {i : Nat} {q : ActJ} (hi : qs[i]? = some q) : ∃ b off, a = some ⟨b, off, none⟩ ∧ w.rangeAt b (off + i * 3) (acc q) := h.at acc_len hi
theorem lightActs31 {w : World} {v : Value} {qs : List ActJ} (h : RowF acc w v qs) (hq : ∀ q ∈ qs, ActOk w q) : Calls Try.prog 31 #[v] w fun r w' => r = .returned (.bool (lightA qs)) ∧ w' = w := by
  obtain ⟨a, cap, rfl⟩ := h.len
  have hcap := h.caps
  have hm1 : qs.length ≤ cap := hcap.2.1
  have hm2 : cap ≤ 9223372036854775807 := hcap.2.2
  by_cases h40 : 30 < qs.length
  · have e : lightA qs = false := by
      unfold lightA
      rw [decide_eq_false (by omega), Bool.false_and]
    rw [e]
    generalize qs.length = m at *
    clear h e hcap hq
    go_enter Try.func31, Try.ntmps31
    go_wp2
    go_ret
    exact ⟨rfl, rfl⟩
  · have H : Hid (RowF acc w (.slice a qs.length cap) qs) := h
    have HQ : Hid (∀ q ∈ qs, ActOk w q) := hq
    obtain ⟨m, hm⟩ : ∃ m, m = qs.length := ⟨_, rfl⟩
    have HM : Hid (m = qs.length) := hm
    rw [← hm] at hm1 h40 H ⊢
    clear h hcap hq hm
    go_enter Try.func31, Try.ntmps31
    go_wp2
    go_loopw [3] (fun kv wr => ∃ (k : Nat), k ≤ m ∧ kv = .int .i64 k ∧ Hid ((∀ j q, j < k → qs[j]? = some q → q.b.length ≤ 500 ∧ q.ks.length ≤ 60) ∧ wr = w)) (fun kv _ => m - (intOf kv).toNat)
    case atStart => exact ⟨0, Nat.zero_le _, rfl, (fun j q hj => by omega), rfl⟩
    case round =>
      obtain ⟨k, hk, rfl, hT⟩ := hrel
      have hwr := hT.out.2
      subst hwr
      by_cases hlt : k < m
      · obtain ⟨q, hq⟩ : ∃ q, qs[k]? = some q := ⟨_, List.getElem?_eq_getElem (by rw [← HM.out]; exact hlt)⟩
        obtain ⟨bb, off, rfl, hr⟩ := acc_cell H.out hq
        have hqo := HQ.out q (List.mem_of_getElem? hq)
        obtain ⟨qa, qc, hqv⟩ := hqo.b.len
        obtain ⟨ka, kc, hkv⟩ := hqo.k.len
        have hqcap := hqo.b
        rw [hqv] at hqcap
        have hqc := hqcap.cap
        have hkcap := hqo.k
        rw [hkv] at hkcap
        have hkc := hkcap.caps
        have c0 : wr.cell? ⟨bb, off + k * 3, none⟩ = some (.slice qa q.b.length qc) := by
          have := hr 0 _ rfl
          rw [Nat.add_zero] at this
          rw [this, hqv]
        have c2 : wr.cell? ⟨bb, off + k * 3 + 2, none⟩ = some (.slice ka q.ks.length kc) := by
          have := hr 2 _ rfl
          rw [this, hkv]
        by_cases h5 : q.b.length ≤ 500 ∧ q.ks.length ≤ 60
        · have HT2 : Hid ((∀ j q, j < k + 1 → qs[j]? = some q → q.b.length ≤ 500 ∧ q.ks.length ≤ 60) ∧ True) := ⟨fun j q' hj hq' => by
            by_cases e : j = k
            · subst e
              rw [hq] at hq'
              cases hq'
              exact h5
            · exact hT.out.1 j q' (by omega) hq', trivial⟩
          obtain ⟨h51, h52⟩ := h5
          generalize q.b.length = ql at *
          generalize q.ks.length = kl at *
          clear hr hqo hqcap hqv hkv hkcap
          go_wp2
          go_roundw
          case rel => exact ⟨k + 1, by omega, by go_num, HT2⟩
          case measure => simp [intOf]; omega
        · have E0 : Hid (lightA qs = false) := by
            show _ = _
            cases hl : lightA qs with
            | false => rfl
            | true => exact absurd ((lightA_true hl).2 q (List.mem_of_getElem? hq)) h5
          by_cases h51 : 500 < q.b.length
          · generalize q.b.length = ql at *
            generalize q.ks.length = kl at *
            clear hr hqo hqcap hqv hkv hkcap h5
            go_wp2
            go_ret
            exact ⟨by rw [E0.out]; rfl, rfl⟩
          · have h52 : 60 < q.ks.length := by omega
            generalize q.b.length = ql at *
            generalize q.ks.length = kl at *
            clear hr hqo hqcap hqv hkv hkcap h5
            go_wp2
            go_ret
            exact ⟨by rw [E0.out]; rfl, rfl⟩
      · obtain rfl : k = m := by omega
        have E1 : Hid (lightA qs = true) := by
          show _ = _
          simp only [lightA, Bool.and_eq_true, decide_eq_true_eq, List.all_eq_true]
          refine ⟨by rw [← HM.out]; omega, fun q hq => ?_⟩
          obtain ⟨j, hj⟩ := List.mem_iff_getElem?.1 hq
          exact hT.out.1 j q (by rw [HM.out]; exact (List.getElem?_eq_some_iff.1 hj).1) hj
        go_wp2
        go_ret
        exact ⟨by rw [E1.out]; rfl, rfl⟩
end Go.Proofs.Ytngmgdngimnljaa
