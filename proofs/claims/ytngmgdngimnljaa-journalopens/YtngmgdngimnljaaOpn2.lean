/-
  Two disks, two journals and two lists, beside each other in memory (OS); every call told of them.
-/
import Derived.Test.YtngmgdngimnljaaOpn
namespace Go.Proofs.Ytngmgdngimnljaa
set_option linter.unusedVariables false
set_option linter.unusedSimpArgs false
set_option synthInstance.maxSize 20000
set_option maxHeartbeats 2000000
set_option maxRecDepth 20000
open Go.RowKit Go.Maps

/-! ### What the first record leaves -/
theorem opJ {D : Dk} {N base size : Nat} {gen : Int} (hf : Fr D N) (hbs : base + size ≤ 40) (hg : U32 gen) (hg0 : gen ≠ 0) (hr : latest (cont D base size) gen ≠ 4294967295) {b : List Int} (hb : b.length ≤ 4000) (ho : Oct b) :
    (∃ J' D', (openJ (cont D base size) base size gen).append D b = (0, J', D') ∧ Fr D' (N + 84) ∧ (scan (cont D base size) gen).2 + partsN b.length ≤ size ∧ ∃ more, (scan (cont D' base size) gen).1 = (scan (cont D base size) gen).1 ++ [b] ++ more) ∨
    ((openJ (cont D base size) base size gen).append D b = (18, openJ (cont D base size) base size gen, D) ∧ size < (scan (cont D base size) gen).2 + partsN b.length) := by
  have hn := hf.n
  have hC : (cont D base size).length = size := cont_len (by omega)
  have hok := openJ_ok (C := cont D base size) (base := base) (size := size) hg hg0 cont_oct hC (by omega) hr
  have hse := (scan_end (cont D base size) gen).1
  have h1 := hse.1
  rw [hC] at h1
  have hnx : (openJ (cont D base size) base size gen).next - base = (scan (cont D base size) gen).2 := by show base + _ - base = _; omega
  rcases append_free (J := openJ (cont D base size) base size gen) (base := base) (size := size) hf hok (Nat.le_add_right _ _) rfl hbs rfl hb ho with ⟨J', D', e, f, rm, c1, c2⟩ | ⟨e, rm⟩
  · refine .inl ⟨J', D', e, f, ?_, ?_⟩
    · have : base + (scan (cont D base size) gen).2 + partsN b.length ≤ base + size := rm
      omega
    · rw [hnx] at c1 c2
      have hpre := Pre.keep _ _ _ gen 0 _ (scan_pre (cont D base size) gen) c1
      have hst : Stands ((cont D' base size).drop (scan (cont D base size) gen).2) gen ((0 + (scan (cont D base size) gen).1.length : Nat) : Int) b (partsN b.length) := by
        refine ⟨_, hok.r0, hg0, hb, rfl, ?_⟩
        rw [c2, Nat.zero_add]
        rfl
      exact (Pre.snoc _ _ gen 0 _ _ b hpre hst).more
  · refine .inr ⟨e, ?_⟩
    have : base + size - (base + (scan (cont D base size) gen).2) < partsN b.length := rm
    omega
theorem opM {D : Dk} {N base size : Nat} {gen : Int} (hf : Fr D N) (hbs : base + size ≤ 40) (hg : U32 gen) (hg0 : gen ≠ 0) (hr : latest (cont D base size) gen ≠ 4294967295) {b : List Int} (hb : b.length ≤ 4000) (ho : Oct b) :
    (∃ J' D', (beginJ (cont D base size) base size gen).append D b = (0, J', D') ∧ Fr D' (N + 84) ∧ partsN b.length ≤ size ∧ ∃ more, (scan (cont D' base size) gen).1 = [b] ++ more) ∨
    ((beginJ (cont D base size) base size gen).append D b = (18, beginJ (cont D base size) base size gen, D) ∧ size < partsN b.length) := by
  have hn := hf.n
  have hok := beginJ_ok (C := cont D base size) (base := base) (size := size) hg hg0 cont_oct (by omega) hr
  have hnx : (beginJ (cont D base size) base size gen).next - base = 0 := Nat.sub_self _
  rcases append_free (J := beginJ (cont D base size) base size gen) (base := base) (size := size) hf hok (Nat.le_refl _) rfl hbs rfl hb ho with ⟨J', D', e, f, rm, c1, c2⟩ | ⟨e, rm⟩
  · refine .inl ⟨J', D', e, f, ?_, ?_⟩
    · have : base + partsN b.length ≤ base + size := rm
      omega
    · rw [hnx] at c2
      have hpre : Pre (cont D' base size) gen 0 [] 0 := rfl
      have hst : Stands ((cont D' base size).drop 0) gen ((0 + ([] : List (List Int)).length : Nat) : Int) b (partsN b.length) := ⟨_, hok.r0, hg0, hb, rfl, c2⟩
      have := (Pre.snoc [] _ gen 0 0 _ b hpre hst)
      rw [List.nil_append, Nat.zero_add] at this
      exact this.more
  · refine .inr ⟨e, ?_⟩
    have : base + size - base < partsN b.length := rm
    omega

structure O1 (w wr : World) (o : Nat → Nat) (db : Nat) (D : Dk) (N : Nat) : Prop where
  dd : DIs wr o 5 db D
  fd : Fr D N
  mv : Mv [5, 6, 7, 8] w zo wr o
theorem o1_new (w : World) : Calls Try.prog 19 #[.int .i64 40] w fun r w' => r = .returned (.tuple #[ptr (w.heap.size + 2), .int .i64 0]) ∧ ∃ o', O1 w w' o' (w.heap.size + 2) (newD 40) 0 := by
  refine (dnew_any w zo 5 40 (by omega) (by omega) (by omega)).mono ?_
  rintro r w' ⟨rfl, hd, hb⟩
  exact ⟨rfl, _, hd, fr_new, Mv.of_below 5 hb⟩
structure O2 (w wr : World) (o : Nat → Nat) (db cb : Nat) (D E : Dk) (N : Nat) : Prop where
  dd : DIs wr o 5 db D
  de : DIs wr o 6 cb E
  fd : Fr D N
  fe : Fr E N
  mv : Mv [5, 6, 7, 8] w zo wr o
section
variable {w wr : World} {o : Nat → Nat} {db cb : Nat} {D E : Dk} {N : Nat}
theorem O1.bel (h : O1 w wr o db D N) : Below w.heap.size w wr := mvz_below h.mv (by simp)
theorem O1.below (h : O1 w wr o db D N) {w' : World} (hb : Below wr.heap.size wr w') : O1 w w' (newTo o wr 0) db D N := ⟨h.dd.below hb, h.fd, h.mv.trans (Mv.of_below 0 hb)⟩
theorem O1.write (h : O1 w wr o db D N) (hN : N ≤ 2000) (i : Int) {bv : Value} {l : List Int} (hb : Rd wr bv l) : Calls Try.prog 20 #[ptr db, .int .i64 i, bv] wr fun r w' => ∃ c, r = .returned (.int .i64 c) ∧ ∃ o' D', O1 w w' o' db D' (N + 1) := by
  obtain ⟨g, n, p, hd⟩ := h.dd
  refine (write_any hd h.fd.ok hN i hb).mono ?_
  rintro r w' ⟨rfl, o', d', m'⟩
  exact ⟨_, rfl, o', _, d', h.fd.write i l, h.mv.trans (m'.widen (by simp))⟩
theorem O1.sync (h : O1 w wr o db D N) (hN : N ≤ 2000) : Calls Try.prog 21 #[ptr db] wr fun r w' => ∃ c, r = .returned (.int .i64 c) ∧ ∃ o' D', O1 w w' o' db D' N := by
  obtain ⟨g, n, p, hd⟩ := h.dd
  refine (sync_any hd h.fd.ok hN).mono ?_
  rintro r w' ⟨rfl, o', d', m'⟩
  exact ⟨_, rfl, o', _, d', h.fd.sync, h.mv.trans (m'.widen (by simp))⟩
theorem O1.copy (h : O1 w wr o db D N) (hN : N ≤ 2000) : Calls Try.prog 22 #[ptr db] wr fun r w' => ∃ cb, r = .returned (ptr cb) ∧ ∃ o', O2 w w' o' db cb D D N := by
  obtain ⟨g, n, p, hd⟩ := h.dd
  refine (copy_any hd h.fd.ok hN 6).mono ?_
  rintro r w' ⟨rfl, d', hb⟩
  exact ⟨_, rfl, _, h.dd.mv (Mv.of_below (I := []) 6 hb) (by simp), d', h.fd, h.fd, h.mv.trans (Mv.of_below 6 hb)⟩
theorem O2.bel (h : O2 w wr o db cb D E N) : Below w.heap.size w wr := mvz_below h.mv (by simp)
theorem O2.below (h : O2 w wr o db cb D E N) {w' : World} (hb : Below wr.heap.size wr w') : O2 w w' (newTo o wr 0) db cb D E N := ⟨h.dd.below hb, h.de.below hb, h.fd, h.fe, h.mv.trans (Mv.of_below 0 hb)⟩
theorem wrong_one (h : Fr D N) {base size gen : Int} (hk : gen = 0 ∨ base < 0 ∨ size < 1 ∨ 40 < base ∨ 40 - base < size) : wrongK D base size gen = 1 := by
  unfold wrongK
  rw [h.n]
  split
  · rfl
  · rw [if_pos (by omega)]
theorem wrong_none (h : Fr D N) {base size gen : Int} (hg : gen ≠ 0) (h0 : 0 ≤ base) (h1 : 1 ≤ size) (h2 : base + size ≤ 40) : wrongK D base size gen = 0 := by
  unfold wrongK
  rw [h.n, if_neg (by omega), if_neg (by omega), h.d]
  rfl
theorem O2.bad (h : O2 w wr o db cb D E N) {base size gen : Int} (hb : I64 base) (hs : I64 size) (hg : U32 gen) (hk : gen = 0 ∨ base < 0 ∨ size < 1 ∨ 40 < base ∨ 40 - base < size) :
    Calls Try.prog 23 #[ptr db, .int .i64 base, .int .i64 size, .int .u32 gen] wr (fun r w' => r = .returned (.tuple #[.pointer none, .slice none 0 0, .int .i64 1]) ∧ w' = wr) ∧ Calls Try.prog 24 #[ptr cb, .int .i64 base, .int .i64 size, .int .u32 gen] wr (fun r w' => r = .returned (.tuple #[.pointer none, .int .i64 1]) ∧ w' = wr) := by
  have e1 := wrong_one h.fd hk
  have e2 := wrong_one h.fe hk
  have h1 := open_bad h.dd (by rw [h.fd.n]; omega) hb hs hg (by omega)
  have h2 := create_bad h.de (by rw [h.fe.n]; omega) hb hs hg (by omega)
  rw [e1] at h1
  rw [e2] at h2
  exact ⟨h1, h2⟩
end

structure OS (w wr : World) (o : Nat → Nat) (db cb jb mb : Nat) (D E : Dk) (J M : Jk) (gv : Value) (gL : List (List Int)) (xv : Value) (xL : List (List Int)) (N : Nat) : Prop where
  dd : DIs wr o 5 db D
  de : DIs wr o 6 cb E
  fd : Fr D N
  fe : Fr E N
  jj : JAt wr o 7 jb db J
  jm : JAt wr o 8 mb cb M
  got : KL wr o gv gL
  want : KL wr o xv xL
  mv : Mv [5, 6, 7, 8] w zo wr o
section
variable {w wr : World} {o : Nat → Nat} {db cb jb mb : Nat} {D E : Dk} {J M : Jk} {gv xv : Value} {gL xL : List (List Int)} {N : Nat}
theorem O2.open (h : O2 w wr o db cb D E N) {base size : Nat} {gen : Int} (hg : U32 gen) (hg0 : gen ≠ 0) (h1 : 1 ≤ size) (h2 : base + size ≤ 40) (hr : latest (cont D base size) gen ≠ 4294967295) (hr2 : latest (cont E base size) gen ≠ 4294967295) : Calls Try.prog 23 #[ptr db, .int .i64 (base : Int), .int .i64 (size : Int), .int .u32 gen] wr fun r w' => ∃ jb v, r = .returned (.tuple #[ptr jb, v, .int .i64 0]) ∧ (∃ a c, v = .slice a (scan (cont D base size) gen).1.length c) ∧
    Calls Try.prog 24 #[ptr cb, .int .i64 (base : Int), .int .i64 (size : Int), .int .u32 gen] w' fun r w'' => ∃ mb, r = .returned (.tuple #[ptr mb, .int .i64 0]) ∧ ∃ o'', OS w w'' o'' db cb jb mb D E (openJ (cont D base size) base size gen) (beginJ (cont E base size) base size gen) v (scan (cont D base size) gen).1 nilv [] N := by
  have k1 := wrong_none h.fd (base := base) (size := size) hg0 (by omega) (by omega) (by omega)
  have k2 := wrong_none h.fe (base := base) (size := size) hg0 (by omega) (by omega) (by omega)
  refine (open_ok h.dd (by rw [h.fd.n]; omega) hg k1 hr 7).mono ?_
  rintro r w' ⟨jb, v, rfl, o', j', kl, m', _⟩
  obtain ⟨a, c, e, _⟩ := kl.slice
  refine ⟨jb, v, rfl, ⟨a, c, e⟩, ?_⟩
  refine (create_ok (h.de.mv m' (by simp)) (by rw [h.fe.n]; omega) hg k2 hr2 8).mono ?_
  rintro r w'' ⟨mb, rfl, o'', j'', m'', _⟩
  exact ⟨mb, rfl, o'', (h.dd.mv m' (by simp)).mv m'' (by simp), (h.de.mv m' (by simp)).mv m'' (by simp), h.fd, h.fe, j'.mv m'' (by simp), j'', kl.mv m'' (by simp), KL.nil _ _, (h.mv.trans (m'.widen (by simp))).trans (m''.widen (by simp))⟩
theorem O2.range (h : O2 w wr o db cb D E N) {base size : Nat} {gen : Int} (hg : U32 gen) (hg0 : gen ≠ 0) (h1 : 1 ≤ size) (h2 : base + size ≤ 40) (hr : latest (cont D base size) gen = 4294967295) (hr2 : latest (cont E base size) gen = 4294967295) : Calls Try.prog 23 #[ptr db, .int .i64 (base : Int), .int .i64 (size : Int), .int .u32 gen] wr fun r w' => r = .returned (.tuple #[.pointer none, .slice none 0 0, .int .i64 2]) ∧
    Calls Try.prog 24 #[ptr cb, .int .i64 (base : Int), .int .i64 (size : Int), .int .u32 gen] w' fun r w'' => r = .returned (.tuple #[.pointer none, .int .i64 2]) ∧ ∃ o'', O2 w w'' o'' db cb D E N := by
  have k1 := wrong_none h.fd (base := base) (size := size) hg0 (by omega) (by omega) (by omega)
  have k2 := wrong_none h.fe (base := base) (size := size) hg0 (by omega) (by omega) (by omega)
  refine (open_range h.dd (by rw [h.fd.n]; omega) hg k1 hr).mono ?_
  rintro r w' ⟨rfl, hb⟩
  refine ⟨rfl, ?_⟩
  refine (create_range (h.below hb).de (by rw [h.fe.n]; omega) hg k2 hr2).mono ?_
  rintro r w'' ⟨rfl, hb2⟩
  exact ⟨rfl, _, (h.below hb).below hb2⟩
theorem OS.bel (h : OS w wr o db cb jb mb D E J M gv gL xv xL N) : Below w.heap.size w wr := mvz_below h.mv (by simp)
theorem OS.below (h : OS w wr o db cb jb mb D E J M gv gL xv xL N) {w' : World} (hb : Below wr.heap.size wr w') : OS w w' (newTo o wr 0) db cb jb mb D E J M gv gL xv xL N :=
  ⟨h.dd.below hb, h.de.below hb, h.fd, h.fe, h.jj.mv (Mv.of_below (I := []) 0 hb) (by simp), h.jm.mv (Mv.of_below (I := []) 0 hb) (by simp), h.got.mv (Mv.of_below (I := []) 0 hb) (by simp), h.want.mv (Mv.of_below (I := []) 0 hb) (by simp), h.mv.trans (Mv.of_below 0 hb)⟩
/-- What is wanted came. -/
theorem OS.with (h : OS w wr o db cb jb mb D E J M gv gL xv xL N) {w' : World} {v : Value} {L : List (List Int)} (hb : Below wr.heap.size wr w') (ho : OutL wr.heap.size w' v L) : OS w w' (newTo o wr 0) db cb jb mb D E J M gv gL v L N :=
  ⟨h.dd.below hb, h.de.below hb, h.fd, h.fe, h.jj.mv (Mv.of_below (I := []) 0 hb) (by simp), h.jm.mv (Mv.of_below (I := []) 0 hb) (by simp), h.got.mv (Mv.of_below (I := []) 0 hb) (by simp), ho.kl0, h.mv.trans (Mv.of_below 0 hb)⟩
theorem OS.apj (h : OS w wr o db cb jb mb D E J M gv gL xv xL N) (hok : JOk J) (hN : N + 84 ≤ 2000) {bv : Value} {l : List Int} (hb : Rd w bv l) (hl : l.length ≤ 1000000) {c : Int} {J' : Jk} {D' : Dk} (e : J.append D l = (c, J', D')) (hf : Fr D' (N + 84)) : Calls Try.prog 29 #[ptr jb, bv] wr fun r w' => r = .returned (.int .i64 c) ∧ ∃ o', OS w w' o' db cb jb mb D' E J' M gv gL xv xL (N + 84) := by
  refine (append29 h.jj hok h.dd h.fd.ok hN (by omega) (by omega) (hb.below h.bel) hl).mono ?_
  rintro r w' ⟨rfl, o', j', d', m'⟩
  rw [e] at j' d' ⊢
  exact ⟨rfl, o', d', h.de.mv m' (by simp), hf, h.fe.mono (by omega), j', h.jm.mv m' (by simp), h.got.mv m' (by simp), h.want.mv m' (by simp), h.mv.trans (m'.widen (by simp))⟩
theorem OS.apm (h : OS w wr o db cb jb mb D E J M gv gL xv xL N) (hok : JOk M) (hN : N + 84 ≤ 2000) {bv : Value} {l : List Int} (hb : Rd w bv l) (hl : l.length ≤ 1000000) {c : Int} {M' : Jk} {E' : Dk} (e : M.append E l = (c, M', E')) (hf : Fr E' (N + 84)) : Calls Try.prog 29 #[ptr mb, bv] wr fun r w' => r = .returned (.int .i64 c) ∧ ∃ o', OS w w' o' db cb jb mb D E' J M' gv gL xv xL (N + 84) := by
  refine (append29 h.jm hok h.de h.fe.ok hN (by omega) (by omega) (hb.below h.bel) hl).mono ?_
  rintro r w' ⟨rfl, o', j', d', m'⟩
  rw [e] at j' d' ⊢
  exact ⟨rfl, o', h.dd.mv m' (by simp), d', h.fd.mono (by omega), hf, h.jj.mv m' (by simp), j', h.got.mv m' (by simp), h.want.mv m' (by simp), h.mv.trans (m'.widen (by simp))⟩
end
/-- sectors, and then Scan of them. -/
theorem sect_scan {wr : World} {o : Nat → Nat} {j b : Nat} {D : Dk} {N : Nat} (h : DIs wr o j b D) (hf : Fr D N) {base size : Nat} (hbs : base + size ≤ 40) {gen : Int} (hg : U32 gen) : Calls Try.prog 25 #[ptr b, .int .i64 (base : Int), .int .i64 (size : Int)] wr fun r w' => ∃ v, r = .returned v ∧ (∃ a n c, v = .slice a n c) ∧
    Calls Try.prog 18 #[v, .int .u32 gen] w' fun r w'' => ∃ v', r = .returned (.tuple #[v', .int .i64 ((scan (cont D base size) gen).2 : Nat), .int .u32 (latest (cont D base size) gen)]) ∧ (∃ a c, v' = .slice a (scan (cont D base size) gen).1.length c ∧ (scan (cont D base size) gen).1.length ≤ c ∧ c ≤ 9223372036854775807) ∧ OutL wr.heap.size w'' v' (scan (cont D base size) gen).1 ∧ Below wr.heap.size wr w'' := by
  have hn := hf.n
  refine (sectors25 h hf.d (by omega) (by omega)).mono ?_
  rintro r w' ⟨v, rfl, ⟨qs, q1, q2⟩, hb⟩
  have hql : qs.length = size := by rw [← LL_len, q2, cont_len (by omega)]
  have h18 := rscan18 (gen := gen) q1 (by omega) hg
  obtain ⟨a, c, rfl⟩ := q1.len
  refine ⟨_, rfl, ⟨a, _, c, rfl⟩, ?_⟩
  rw [q2] at h18
  refine h18.mono ?_
  rintro r w'' ⟨v', rfl, ho, hb2⟩
  have ho2 := ho.mono hb.size
  refine ⟨v', rfl, ?_, ho2, bnext hb hb2⟩
  obtain ⟨ps, p1, p2, p3⟩ := ho
  obtain ⟨a', c', rfl⟩ := p1.len
  have := p1.row.caps
  rw [← p2, LL_len]
  exact ⟨a', c', rfl, this.2.1, this.2.2⟩
end Go.Proofs.Ytngmgdngimnljaa
