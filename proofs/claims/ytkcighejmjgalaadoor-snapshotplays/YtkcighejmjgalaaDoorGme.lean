/-
  A disk, a store on it and its journal beside each other in memory (GS); every call told of it.
-/
import Derived.Test.YtkcighejmjgalaaDoorSnA
namespace Go.Proofs.YtkcighejmjgalaaDoor
set_option linter.unusedVariables false
set_option linter.unusedSimpArgs false
set_option synthInstance.maxSize 20000
set_option maxHeartbeats 2000000
set_option maxRecDepth 20000
open Go.RowKit Go.Maps

def zo : Nat → Nat := fun _ => 0
theorem mvz_below {I : List Nat} {w w' : World} {o' : Nat → Nat} (m : Mv I w zo w' o') (h : 0 ∉ I) : Below w.heap.size w w' := m.below (Nat.le_refl _) (fun k hk => by simpa [zo] using h)
/-- Whose the journal of that number is. -/
def jo (num : Int) : Nat := if placeN num = 0 then 7 else 8
theorem jo_cases (num : Int) : (jo num = 7 ∧ jo (num + 1) = 8) ∨ (jo num = 8 ∧ jo (num + 1) = 7) := by
  unfold jo placeN
  by_cases h : num % 2 = 0
  · right
    rw [if_pos h, if_neg (show ¬ (num + 1) % 2 = 0 by omega)]
    simp
  · left
    rw [if_neg h, if_pos (show (num + 1) % 2 = 0 by omega)]
    simp
abbrev II : List Nat := [4, 5, 6, 7, 8, 9, 10, 11]
structure GS (w wr : World) (o : Nat → Nat) (db sb jb : Nat) (D : Dk) (num : Int) (J : Jk) (snap : List Int) (all : List (List Int)) (N : Nat) : Prop where
  d : DIs wr o 5 db D
  s : SAt wr o 4 sb db (ptr jb) num false
  j : JAt wr o (jo num) jb db J
  si : SIc D num J snap all
  dn : D.down = false
  ar : D.armed = false
  ok : DOk D N
  mv : Mv II w zo wr o
section
variable {w wr : World} {o : Nat → Nat} {db sb jb : Nat} {D : Dk} {num : Int} {J : Jk} {snap : List Int} {all : List (List Int)} {N : Nat}
theorem GS.bel (h : GS w wr o db sb jb D num J snap all N) : Below w.heap.size w wr := mvz_below h.mv (by simp)
theorem GS.step {I : List Nat} {w' : World} {o' : Nat → Nat} (h : GS w wr o db sb jb D num J snap all N) (m : Mv I wr o w' o') (h4 : 4 ∉ I) (h5 : 5 ∉ I) (h7 : 7 ∉ I) (h8 : 8 ∉ I) (hI : ∀ i ∈ I, i ∈ II) : GS w w' o' db sb jb D num J snap all N :=
  ⟨h.d.mv m h5, h.s.mv m h4, h.j.mv m (by rcases jo_cases num with ⟨e, _⟩ | ⟨e, _⟩ <;> rw [e] <;> assumption), h.si, h.dn, h.ar, h.ok, h.mv.trans (m.widen hI)⟩
theorem GS.below {w' : World} (h : GS w wr o db sb jb D num J snap all N) (hb : Below wr.heap.size wr w') : GS w w' (newTo o wr 0) db sb jb D num J snap all N := h.step (Mv.of_below (I := []) 0 hb) (by simp) (by simp) (by simp) (by simp) (by simp)
theorem GS.tab (h : GS w wr o db sb jb D num J snap all N) (hT : Tab w) : Tab wr ∧ o 0 = 0 := hT.mv (o := zo) rfl h.mv (by simp)
theorem GS.append (h : GS w wr o db sb jb D num J snap all N) (hN : N + 84 ≤ 2000) {bv : Value} {l : List Int} (hb : Rd wr bv l) (hl : l.length ≤ 4000) : Calls Tryd.prog 11 #[ptr sb, bv] wr fun r w' => ∃ kd, r = .returned (.int .i64 kd) ∧ ((kd = 0 ∧ partsN l.length ≤ J.fin - J.next ∧ ∃ o' D', GS w w' o' db sb jb D' num { J with next := J.next + partsN l.length, count := J.count + 1 } snap (all ++ [l]) (N + partsN l.length) ∧ D'.now.length = D.now.length ∧ Mv [4, 5, 7, 8] wr o w' o') ∨ (kd = 18 ∧ J.fin - J.next < partsN l.length ∧ ∃ o', GS w w' o' db sb jb D num J snap all N ∧ Mv [4, 5, 7, 8] wr o w' o')) := by
  have hj : jo num ≠ 5 ∧ jo num ≠ 4 := by rcases jo_cases num with ⟨e, _⟩ | ⟨e, _⟩ <;> rw [e] <;> omega
  have hjm : ∀ i ∈ [5, jo num, 4], i ∈ [4, 5, 7, 8] := by rcases jo_cases num with ⟨e, _⟩ | ⟨e, _⟩ <;> rw [e] <;> simp
  have hdk := append_dok' (J := J) (l := l) h.ok
  refine (sappend11 h.s h.j h.si.jok h.d h.ok hN hj.1 (by omega) (by omega) hj.2.symm hb (by omega)).mono ?_
  rintro r w' ⟨rfl, o', s', j', d', m'⟩
  refine ⟨_, rfl, ?_⟩
  rcases h.si.append h.dn h.ar hl hb.oct with ⟨D', e, si, dn, ar, hr, hln⟩ | ⟨e, hr⟩
  · rw [e] at s' j' d' hdk ⊢
    exact .inl ⟨rfl, by omega, o', D', ⟨d', by simpa using s', j', si, dn, ar, hdk, h.mv.trans (m'.widen (fun i hi => by have := hjm i hi; simp at this ⊢; omega))⟩, hln, m'.widen hjm⟩
  · rw [e] at s' j' d' hdk ⊢
    exact .inr ⟨rfl, hr, o', ⟨d', by simpa using s', j', h.si, h.dn, h.ar, h.ok, h.mv.trans (m'.widen (fun i hi => by have := hjm i hi; simp at this ⊢; omega))⟩, m'.widen hjm⟩
theorem GS.compact (h : GS w wr o db sb jb D num J snap all N) (hT : Tab w) (hu : num + 1 < 4294967295) (hN : N + 86 ≤ 2000) {bv : Value} {l : List Int} (hb : Rd wr bv l) (hl : l.length ≤ 4000) : Calls Tryd.prog 10 #[ptr sb, bv] wr fun r w' => ∃ kd, r = .returned (.int .i64 kd) ∧ ((kd = 0 ∧ partsN l.length ≤ hsize D.now.length ∧ ∃ o' D' jb' J', GS w w' o' db sb jb' D' (num + 1) J' l [] (N + partsN l.length + 1) ∧ D'.now.length = D.now.length ∧ J'.fin - J'.next = hsize D.now.length - partsN l.length ∧ Mv [4, 5, 7, 8] wr o w' o') ∨ (kd = 18 ∧ hsize D.now.length < partsN l.length ∧ ∃ o', GS w w' o' db sb jb D num J snap all N ∧ Mv [4, 5, 7, 8] wr o w' o')) := by
  obtain ⟨t, o0⟩ := h.tab hT
  have h6 := h.si.n6
  have hj : jo (num + 1) ≠ 5 ∧ jo (num + 1) ≠ 4 ∧ jo (num + 1) ≠ 0 ∧ jo num ≠ 4 ∧ jo num ≠ 5 ∧ jo num ≠ jo (num + 1) := by rcases jo_cases num with ⟨e, e2⟩ | ⟨e, e2⟩ <;> rw [e, e2] <;> omega
  have hjm : ∀ i ∈ [5, jo (num + 1), 4], i ∈ [4, 5, 7, 8] := by rcases jo_cases num with ⟨_, e⟩ | ⟨_, e⟩ <;> rw [e] <;> simp
  have hjI : ∀ i ∈ [5, jo (num + 1), 4], i ∈ II := fun i hi => by have := hjm i hi; simp at this ⊢; omega
  have hdk := cpt_dok (num := num) (f := false) (l := l) h.ok
  refine (compact10 (jj := jo (num + 1)) h.s h.d h.ok hN t o0 (by omega) h.si.u32 hb (by omega) (by omega) hj.2.1.symm (by omega) hj.2.2.1 hj.1).mono ?_
  rintro r w' ⟨kd, rfl, ekd, o', d', m', hcs⟩
  refine ⟨kd, rfl, ?_⟩
  rcases h.si.compact hu h.dn h.ar hl hb.oct with ⟨J', D', e, si, dn, ar, hp, hln, hrm⟩ | ⟨e1, e2, hp, hr⟩
  · rw [e] at ekd d' hcs hdk
    rcases hcs with ⟨hk, _, jb', s', j'⟩ | ⟨hk, _⟩
    · exact .inl ⟨hk, hp, o', D', jb', J', ⟨d', s', j', si, dn, ar, hdk, h.mv.trans (m'.widen hjI)⟩, hln, hrm, m'.widen hjm⟩
    · exact absurd ekd hk
  · rw [e1] at ekd
    rw [e2] at d'
    rcases hcs with ⟨hk, _⟩ | ⟨hk, s'⟩
    · omega
    · rw [hr, if_pos (by simp)] at s'
      exact .inr ⟨ekd, hp, o', ⟨d', s', h.j.mv m' (by simp; omega), h.si, h.dn, h.ar, h.ok, h.mv.trans (m'.widen hjI)⟩, m'.widen hjm⟩
/-- Open tells what is there. -/
theorem old_tells {w : World} {o : Nat → Nat} {j jj js db : Nat} {D : Dk} {num : Int} {J : Jk} {snap : List Int} {all : List (List Int)} {r : Ending} {w' : World} (si : SIc D num J snap all) (h : OpOld w o j jj js db D r w') : ∃ v0 v1 sb, r = .returned (.tuple #[ptr sb, v0, v1, .int .i64 0]) ∧ ∃ o' jb, SAt w' o' js sb db (ptr jb) num false ∧ JAt w' o' jj jb db (openJ (bgC D num) (hbase D.now.length num) (hsize D.now.length) num) ∧ Kp0 w' o' v0 snap ∧ KL w' o' v1 all ∧ Mv [js] w o w' o' := by
  have hs := si.scan
  have hlt := si.late
  have hjr := si.jr
  have hl := si.lat
  unfold OpOld at h
  rw [hl, hs] at h
  rcases h with ⟨e, _⟩ | ⟨_, e, _⟩ | ⟨b0, rest, v0, v1, sb, e, _, rfl, o', jb, s, j', k0, k1, m⟩
  · cases e
  · omega
  · obtain ⟨rfl, rfl⟩ : snap = b0 ∧ all = rest := List.cons.inj e
    exact ⟨v0, v1, sb, rfl, o', jb, s, j', k0, k1, m⟩
theorem GS.copyOpen (h : GS w wr o db sb jb D num J snap all N) (hT : Tab w) (hN : N ≤ 2000) : Calls Tryd.prog 14 #[ptr db] wr fun r w1 => ∃ cb, r = .returned (ptr cb) ∧ Calls Tryd.prog 8 #[ptr cb] w1 fun r w' => ∃ v0 v1 sb2, r = .returned (.tuple #[ptr sb2, v0, v1, .int .i64 0]) ∧ ∃ o', Kp0 w' o' v0 snap ∧ KL w' o' v1 all ∧ GS w w' o' db sb jb D num J snap all N ∧ Mv [10] wr o w' o' := by
  obtain ⟨g, n, p, hd⟩ := h.d
  refine (copy_any hd h.ok hN 6).mono ?_
  rintro r w1 ⟨rfl, d1, hb1⟩
  refine ⟨_, rfl, ?_⟩
  have m1 : ∀ I, Mv I wr o w1 (newTo o wr 6) := fun I => Mv.of_below 6 hb1
  have h1 := h.step (m1 []) (by simp) (by simp) (by simp) (by simp) (by simp)
  have hl := h.si.lat
  have hn1 := h.si.n1
  refine (open8_old (j := 6) (jj := 11) (js := 10) d1 h.ok (h1.tab hT).1 h.si.n6 h.dn (by omega) (by omega) (by omega)).mono ?_
  rintro r w' ho
  obtain ⟨v0, v1, sb2, rfl, o', jb2, _, _, k0, k1, m⟩ := old_tells h.si ho
  exact ⟨v0, v1, sb2, rfl, o', k0, k1, h1.step m (by simp) (by simp) (by simp) (by simp) (by simp), (m1 _).trans m⟩
/-- Open of the same disk. -/
theorem GS.open (h : GS w wr o db sb jb D num J snap all N) (hT : Tab w) : Calls Tryd.prog 8 #[ptr db] wr fun r w' => ∃ v0 v1 sb2, r = .returned (.tuple #[ptr sb2, v0, v1, .int .i64 0]) ∧ Rd w' v0 snap ∧ (∃ qs, RL w' v1 qs ∧ LL qs = all) ∧ Below w.heap.size w w' := by
  have hl := h.si.lat
  have hn1 := h.si.n1
  refine (open8_old (j := 5) (jj := 11) (js := 10) h.d h.ok (h.tab hT).1 h.si.n6 h.dn (by omega) (by omega) (by omega)).mono ?_
  rintro r w' ho
  obtain ⟨v0, v1, sb2, rfl, o', jb2, _, _, k0, ⟨qs, k1, k2⟩, m⟩ := old_tells h.si ho
  exact ⟨v0, v1, sb2, rfl, k0.1, ⟨qs, k1.rl, k2⟩, mvz_below (h.mv.trans (m.widen (by simp))) (by simp)⟩
theorem GS.count (h : GS w wr o db sb jb D num J snap all N) : Calls Tryd.prog 15 #[ptr sb] wr fun r w' => r = .returned (.int .i64 (all.length : Int)) ∧ w' = wr := by
  have hc := h.si.jc
  have hk := h.si.jok
  have := scount15 h.s.blk h.j.blk (by omega) (by have := hk.cc; have := hk.nf; have := hk.ff; omega)
  rwa [show J.count - 1 = all.length by omega] at this
theorem GS.room (h : GS w wr o db sb jb D num J snap all N) : Calls Tryd.prog 16 #[ptr sb] wr fun r w' => r = .returned (.int .i64 ((J.fin - J.next : Nat) : Int)) ∧ Below wr.heap.size wr w' := sroom16 h.s.blk h.j.blk h.si.jok
theorem GS.number (h : GS w wr o db sb jb D num J snap all N) : Calls Tryd.prog 17 #[ptr sb] wr fun r w' => r = .returned (.int .u32 num) ∧ w' = wr := number17 h.s.blk
end
/-- A new disk. -/
structure G0 (w wr : World) (o : Nat → Nat) (db : Nat) (D : Dk) (N : Nat) : Prop where
  d : DIs wr o 5 db D
  ok : DOk D N
  mv : Mv II w zo wr o
theorem g0_new (w : World) {n : Nat} (h1 : 1 ≤ n) (h4 : n ≤ 400) : Calls Tryd.prog 7 #[.int .i64 (n : Int)] w fun r w' => ∃ db, r = .returned (.tuple #[ptr db, .int .i64 0]) ∧ ∃ o', G0 w w' o' db (newD n) 0 := by
  refine (dnew_any w zo 5 n h1 h4 (by omega)).mono ?_
  rintro r w' ⟨rfl, hd, hb⟩
  exact ⟨_, rfl, _, hd, newD_ok n h4 h1, Mv.of_below 5 hb⟩
section
variable {w wr : World} {o : Nat → Nat} {db : Nat} {D : Dk} {N : Nat}
theorem G0.bel (h : G0 w wr o db D N) : Below w.heap.size w wr := mvz_below h.mv (by simp)
theorem G0.openNew (h : G0 w wr o db D N) (hT : Tab w) (hN : N + 86 ≤ 2000) (ps : PS D 0 1) (hd : D.down = false) (ha : D.armed = false) : Calls Tryd.prog 8 #[ptr db] wr fun r w' => ∃ sb, r = .returned (.tuple #[ptr sb, .slice none 0 0, .slice none 0 0, .int .i64 0]) ∧ ∃ o' jb D' J', GS w w' o' db sb jb D' 1 J' [] [] (N + 2) ∧ D'.now.length = D.now.length ∧ J'.fin - J'.next = hsize D.now.length - 1 := by
  obtain ⟨t, o0⟩ := hT.mv (o := zo) rfl h.mv (by simp)
  have hdk := cpt_dok (num := 0) (f := false) (l := []) h.ok
  obtain ⟨J', D', e, si, dn, ar, hln, hrm⟩ := ps.first hd ha
  refine (open8_new (jj := 7) (js := 4) h.d h.ok hN t o0 ps.n6 hd ps.lat (by omega) (by omega) (by omega) (by omega) (by omega)).mono ?_
  rintro r w' ⟨o', d', m', hcs⟩
  rw [e] at d' hcs hdk
  rcases hcs with ⟨_, sb, jb, rfl, s', j'⟩ | ⟨hk, _⟩
  · exact ⟨sb, rfl, o', jb, D', J', ⟨d', s', j', si, dn, ar, hdk, h.mv.trans (m'.widen (by simp))⟩, hln, hrm⟩
  · exact absurd rfl hk
end
end Go.Proofs.YtkcighejmjgalaaDoor
