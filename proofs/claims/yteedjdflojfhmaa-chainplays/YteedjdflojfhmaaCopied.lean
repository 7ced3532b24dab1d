/-
  An entry in new memory; entries in new memory.
  append of entries onto a row of the owner's own: where the row lies then.
-/
import Derived.Test.YteedjdflojfhmaaLogM
import Derived.Test.YteedjdflojfhmaaSignE
import Derived.Test.YteedjdflojfhmaaRefO
import Derived.Test.YteedjdflojfhmaaCmp
import Derived.Laws.OwnMore
namespace Go.Proofs.Yteedjdflojfhmaa
section
set_option linter.unusedVariables false
set_option linter.unusedSimpArgs false
set_option synthInstance.maxSize 20000
set_option maxHeartbeats 2000000
set_option maxRecDepth 20000
open Go.RowKit Go.Maps

theorem own_past {B : Nat} {e : TypeId} {w w' : World} {v : Value} {l : List Int} {c : Nat} (h : Own B e w v l) (hc : c < B) (hg : w.grownBy w' (some c)) : Own B e w' v l :=
  ⟨h.1, ownsRow_block h.2 (fun k hk => hg.block k (h.2.lt k hk).2 (fun e => by have := (h.2.lt k hk).1; have := Option.some.inj e; omega))⟩

theorem copied_any (w : World) (e : Ent) (x : Value) (hx : Rd w x e.b) (hl : e.b.length ≤ 1000000) :
    Calls Try.prog 56 #[ev e x] w fun r w' => ∃ y, r = .returned (ev e y) ∧ Own w.heap.size 5 w' y e.b ∧ Below w.heap.size w w' := by
  have HV : Hid (Rd w x e.b) := hx
  obtain ⟨a, cap, rfl⟩ := hx.len
  obtain ⟨ew, ei, ep, et, eu, en, eb, eg⟩ := e
  unfold ev
  dsimp only at *
  obtain ⟨w1, hw1⟩ : ∃ w1, w1 = (w.alloc (.cells #[.int .i64 ew, .int .i64 ei, .int .u64 ep, .int .i64 et, .int .i64 eu, .int .i64 en, .slice a eb.length cap, .int .u64 eg] 47)).alloc (.cells #[.int .i64 0, .int .i64 0, .int .u64 0, .int .i64 0, .int .i64 0, .int .i64 0, .slice none 0 0, .int .u64 0] 47) := ⟨_, rfl⟩
  have HB1 : Hid (Below w.heap.size w w1) := by show Below _ _ _; rw [hw1]; exact balloc (balloc (Below.refl _ _) _) _
  have HX1 : Hid (Blk w1 w.heap.size 47 [.int .i64 ew, .int .i64 ei, .int .u64 ep, .int .i64 et, .int .i64 eu, .int .i64 en, .slice a eb.length cap, .int .u64 eg]) := by show Blk _ _ _ _; rw [hw1]; exact (blk_new w [.int .i64 ew, .int .i64 ei, .int .u64 ep, .int .i64 et, .int .i64 eu, .int .i64 en, .slice a eb.length cap, .int .u64 eg] 47).alloc _
  have HZ1 : Hid (Blk w1 (w.heap.size + 1) 47 [.int .i64 0, .int .i64 0, .int .u64 0, .int .i64 0, .int .i64 0, .int .i64 0, .slice none 0 0, .int .u64 0]) := by
    show Blk _ _ _ _
    rw [hw1]
    have := blk_new (w.alloc (.cells #[.int .i64 ew, .int .i64 ei, .int .u64 ep, .int .i64 et, .int .i64 eu, .int .i64 en, .slice a eb.length cap, .int .u64 eg] 47)) [.int .i64 0, .int .i64 0, .int .u64 0, .int .i64 0, .int .i64 0, .int .i64 0, .slice none 0 0, .int .u64 0] 47
    simpa using this
  clear hx
  go_enter Try.func56, Try.ntmps56
  go_upto_region 1 with fail
  rw [← hw1]
  obtain ⟨n, hn⟩ : ∃ n, n = w.heap.size := ⟨_, rfl⟩
  rw [← hn] at HX1 HZ1 ⊢
  have HNN : Hid (n = w.heap.size) := hn
  clear hw1 hn
  have x6 := HX1.out.cell 6 _ rfl
  go_wp2_with (go_at_call 66; go_must (refine (bclone_any _ eb w1 (HV.out.below HB1.out) (by omega)).mono ?_; rintro r w4 ⟨x4, rfl, ho4, hb4⟩; obtain ⟨a4, c4, hx⟩ := ho4.rd.len; subst hx; have Z := HZ1.out.below hb4; have Y := HX1.out.below hb4; have p0 := Y.cell 0 _ rfl; have p1 := Y.cell 1 _ rfl; have p2 := Y.cell 2 _ rfl; have p3 := Y.cell 3 _ rfl; have p4 := Y.cell 4 _ rfl; have p5 := Y.cell 5 _ rfl; have p6 := Y.cell 6 _ rfl; have p7 := Y.cell 7 _ rfl; have q0 := Y.frozen 0; have q1 := Y.frozen 1; have q2 := Y.frozen 2; have q3 := Y.frozen 3; have q4 := Y.frozen 4; have q5 := Y.frozen 5; have q6 := Y.frozen 6; have q7 := Y.frozen 7; have z0 := Z.cell 0 _ rfl; have z1 := Z.cell 1 _ rfl; have z2 := Z.cell 2 _ rfl; have z3 := Z.cell 3 _ rfl; have z4 := Z.cell 4 _ rfl; have z5 := Z.cell 5 _ rfl; have z6 := Z.cell 6 _ rfl; have z7 := Z.cell 7 _ rfl; have f0 := Z.frozen 0; have f1 := Z.frozen 1; have f2 := Z.frozen 2; have f3 := Z.frozen 3; have f4 := Z.frozen 4; have f5 := Z.frozen 5; have f6 := Z.frozen 6; have f7 := Z.frozen 7))
  have HN1 : Hid (n + 1 < w1.heap.size) := HZ1.out.lt
  have G1 : w4.grownBy (w4.setCell ⟨n, 6, none⟩ (.slice a4 eb.length c4)) (some n) := grown_setCell _ _ _ _
  have G2 := grown_set8 (w4.setCell ⟨n, 6, none⟩ (.slice a4 eb.length c4)) (n + 1) (.int .i64 ew) (.int .i64 ei) (.int .u64 ep) (.int .i64 et) (.int .i64 eu) (.int .i64 en) (.slice a4 eb.length c4) (.int .u64 eg)
  refine bodyPost_ret (v := .agg #[.int .i64 ew, .int .i64 ei, .int .u64 ep, .int .i64 et, .int .i64 eu, .int .i64 en, .slice a4 eb.length c4, .int .u64 eg]) ?_ rfl ⟨_, rfl, ?_, ?_⟩
  · rw [results_cell1 rfl]
    go_simp
  · exact (own_past (own_past ho4 (by have := HN1.out; omega) G1) HN1.out G2).lower HB1.out.size
  · exact bgrown (bgrown (bnext HB1.out hb4) (by have := HNN.out; omega) G1) (by have := HNN.out; omega) G2

theorem copied_mv {w : World} {o : Nat → Nat} {e : Ent} {x : Value} (hx : Kp0 w o x e.b) (hl : e.b.length ≤ 1000000) :
    Calls Try.prog 56 #[ev e x] w fun r w' => ∃ y, r = .returned (ev e y) ∧ Kp0 w' (newTo o w 0) y e.b ∧ Below w.heap.size w w' := by
  refine (copied_any w e x hx.1 hl).mono ?_
  rintro r w' ⟨y, rfl, ho, hb⟩
  exact ⟨y, rfl, Kp0.of_new (w1 := w) ho (Nat.le_refl _), hb⟩
end

section
set_option linter.unusedVariables false
set_option linter.unusedSimpArgs false
set_option synthInstance.maxSize 20000
set_option maxHeartbeats 2000000
set_option maxRecDepth 20000
open Go.RowKit Go.Maps

theorem infoE : ∃ i, Try.prog.info? 47 = some i ∧ i.zero = some (.agg #[.int .i64 0, .int .i64 0, .int .u64 0, .int .i64 0, .int .i64 0, .int .i64 0, .slice none 0 0, .int .u64 0]) ∧ i.size = 8 ∧ i.bytes = 80 := by
  have h : (Try.prog.info? 47).map (fun i => (i.zero, i.size, i.bytes)) = some (some (.agg #[.int .i64 0, .int .i64 0, .int .u64 0, .int .i64 0, .int .i64 0, .int .i64 0, .slice none 0 0, .int .u64 0]), 8, 80) := by kernel_rfl
  obtain ⟨i, hi, h1, h2, h3⟩ := info_parts h
  exact ⟨i, hi, h1, h2, h3⟩

theorem run_append_where {P : Program} (w : World) (base : Nat) (t ty e : TypeId) (i : TypeInfo) (z : Value) (size bytes : Nat) (ht : P.underlying t = some (.slice e)) (hi : P.info? e = some i) (hz : i.zero = some z)
    (hsize : i.size = size) (hby : i.bytes = bytes) (hzs : z.cells.size = size) (hsz : 0 < size)
    (v : Value) (n : Nat) (xs : List Value) (hown : w.ownsRow base e size v n xs)
    (a : Addr) (m c : Nat) (news : List Value) (hl : news.length = m * size) (hnews : ∀ j u, news[j]? = some u → w.cell? (a.add j) = some u) (h1 : ∀ u ∈ news, u.oneCell' = true)
    (h63 : n + m ≤ maxLen) (hbytes : (n + m) * bytes ≤ 140737488355328) (hbase : base ≤ w.heap.size) :
    ∃ v' w', (Builtin.append_ #[t, t] ty #[v, .slice (some a) m c]).run P w = .ok v' w' ∧ w'.ownsRow base e size v' (n + m) (xs ++ news) ∧ w.grownBy w' v.ownBlock ∧ (∀ k, v'.ownBlock = some k → v.ownBlock = some k ∨ w.heap.size ≤ k) := by
  obtain ⟨v', w', hr, h2, h3, h4⟩ := run_append_own (P := P) w base t ty e i z size bytes ht hi hz hsize hby hzs hsz v n xs hown a m c news hl hnews h1 h63 hbytes hbase
  refine ⟨v', w', hr, h2, h3, ?_⟩
  subst hsize
  subst hby
  have hsmall : n + m ≤ 9223372036854775807 := by simp only [maxLen] at h63; omega
  rcases hown.2 with ⟨rfl, rfl⟩ | ⟨g, cap, cur, rfl, hbg, hg, hnc, hcm, hcs, htake⟩
  · by_cases hm : m = 0
    · have := h4.2 ⟨rfl, hm⟩
      subst this
      intro k hk
      simp [Value.ownBlock] at hk
    · have hr2 := run_append_nil (P := P) w t ty e i z ht hi hz a m c news hl hnews (by omega) (by omega) (by have hb := hbytes; simp only [Nat.zero_add] at hb; omega)
      rw [hr] at hr2
      cases hr2
      intro k hk
      simp [Value.ownBlock] at hk
      exact .inr (by omega)
  · by_cases hroom : n + m ≤ cap
    · have hfit : n * i.size + news.length ≤ cur.size := by rw [hl, hcs, ← Nat.add_mul]; exact Nat.mul_le_mul_right _ hroom
      have hr2 := run_append_room (P := P) w t ty e i ht hi g n cap cur hg a m c news hl hnews h1 hroom hfit
      rw [hr] at hr2
      cases hr2
      intro k hk
      exact .inl hk
    · have holds : ∀ j u, xs[j]? = some u → w.cell? ((⟨g, 0, none⟩ : Addr).add j) = some u := hown.cells (g := g) rfl
      have hr2 := run_append_grow (P := P) w t ty e i z ht hi hz ⟨g, 0, none⟩ n cap xs hown.1 holds a m c news hl hnews (by omega) (by omega) (growslice_fits (by omega) hbytes)
      rw [hr] at hr2
      cases hr2
      intro k hk
      simp [Value.ownBlock] at hk
      exact .inr (by omega)

section
variable {w : World} {ops : Array Oper} {rest : List Oper} {o : Oper} {a : Act} {Q : Exit → Act → World → Prop}
theorem wpList_append_ents (hgd : o.guard = none) (s x : Operand) (ho : o.op = .call { callee := .builtin .append, args := #[s, x], argTypes := #[40, 40] })
    (v : Value) (ps : List (Ent × Value)) (hs : a.eval s = v) (hown : w.ownsRow 0 47 8 v ps.length (flatE ps))
    (y : Value) (qs : List (Ent × Value)) (hx : a.eval x = y) (hy : RowE w y qs) (h1 : ∀ u ∈ flatE qs, u.oneCell' = true) (hlen : ps.length + qs.length ≤ 1000000)
    (h : ∀ v' w', w'.ownsRow 0 47 8 v' (ps ++ qs).length (flatE (ps ++ qs)) → w.grownBy w' v.ownBlock → (∀ k, v'.ownBlock = some k → v.ownBlock = some k ∨ w.heap.size ≤ k) → wpList Try.prog ops Q rest (a.put o.dst v') w') : wpList Try.prog ops Q (o :: rest) a w := by
  obtain ⟨ad, c, rfl, k1, k2, k3, k4⟩ := hy
  obtain ⟨i, hi, hz, hs1, hs2⟩ := infoE
  have hmax : ps.length + qs.length ≤ maxLen := by unfold maxLen; omega
  have Ht : Try.prog.underlying 40 = some (.slice 47) := Try.underlying40
  refine wpList_plain hgd fun K hK => ?_
  unfold Oper.wp
  have fin : ∀ (v' : Value) (w' : World), w'.ownsRow 0 47 8 v' (ps.length + qs.length) (flatE ps ++ flatE qs) → w'.ownsRow 0 47 8 v' (ps ++ qs).length (flatE (ps ++ qs)) := fun v' w' hh => by
    rw [List.length_append, flatE_append]
    exact hh
  cases ad with
  | none =>
    have h0 := k3 rfl
    subst h0
    have h0 : qs = [] := List.eq_nil_of_length_eq_zero (by omega)
    subst h0
    have hrun := run_append_owned_none (P := Try.prog) w 0 40 o.type 47 i 8 Ht hi v _ _ hown
    simp [execOp, ho, resolve, invoke, builtin, hs, hx, hrun, Result.andThen]
    exact hK _ _ (h v w (by simpa using hown) (grown_refl _ _) (fun k hk => .inl hk))
  | some ad =>
    have hcells : ∀ j u, (flatE qs)[j]? = some u → w.cell? (ad.add j) = some u := fun j u hj => by
      have hp : 0 < qs.length := by
        have := (List.getElem?_eq_some_iff.1 hj).1
        rw [flatE_length] at this
        omega
      obtain ⟨b, off, e, hc⟩ := k4 hp
      cases e
      rw [Addr.add_lit]
      exact hc j u hj
    obtain ⟨v', w', hrun, r1, r2, r3⟩ := run_append_where (P := Try.prog) w 0 40 o.type 47 i _ 8 80 Ht hi hz hs1 hs2 rfl (by decide) v ps.length (flatE ps) hown ad qs.length c (flatE qs) (flatE_length qs) hcells h1 hmax (by omega) (Nat.zero_le _)
    simp [execOp, ho, resolve, invoke, builtin, hs, hx, hrun, Result.andThen]
    exact hK _ _ (h v' w' (fin _ _ r1) r2 r3)
end

/-- One entry, as a row of its own. -/
theorem rowE_one (w : World) (e : Ent) (y : Value) : RowE (w.alloc (.cells #[.int .i64 e.w, .int .i64 e.i, .int .u64 e.p, .int .i64 e.t, .int .i64 e.u, .int .i64 e.n, y, .int .u64 e.g] 47)) (.slice (some ⟨w.heap.size, 0, none⟩) 1 1) [(e, y)] := by
  refine ⟨some ⟨w.heap.size, 0, none⟩, 1, rfl, Nat.le_refl _, by unfold maxLen; omega, (fun h => by cases h), fun _ => ⟨w.heap.size, 0, rfl, fun j u hj => ?_⟩⟩
  have X := blk_new w [.int .i64 e.w, .int .i64 e.i, .int .u64 e.p, .int .i64 e.t, .int .i64 e.u, .int .i64 e.n, y, .int .u64 e.g] 47
  rw [Nat.zero_add]
  exact X.cell j u (by simpa [flatE, ec] using hj)

theorem RowE.at0 {w : World} {v : Value} {ps : List (Ent × Value)} {k : Nat} (h : RowE w v ps) (hk : v.ownBlock = some k) {w' : World} (hb : w'.heap[k]? = w.heap[k]?) : RowE w' v ps := h.blocks fun k' hk' _ => by
  rw [hk] at hk'
  cases hk'
  exact hb
end
end Go.Proofs.Yteedjdflojfhmaa
