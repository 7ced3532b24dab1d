/-
  One entry more in a log: its sum is asked of the oracle, a copy of it is appended.
-/
import Derived.Test.YteedjdflojfhmaaCopied
import Derived.Test.YteedjdflojfhmaaSumE
import Derived.Test.YteedjdflojfhmaaCheck
namespace Go.Proofs.Yteedjdflojfhmaa
set_option linter.unusedVariables false
set_option linter.unusedSimpArgs false
set_option synthInstance.maxSize 20000
set_option maxHeartbeats 2000000
set_option maxRecDepth 20000
open Go.RowKit Go.Maps

theorem Blk.past {w w' : World} {b c : Nat} {e : TypeId} {vs : List Value} (h : Blk w b e vs) (hg : w.grownBy w' (some c)) (hne : b ≠ c) : Blk w' b e vs := h.block (hg.block b h.lt (fun e => hne (Option.some.inj e)))
theorem Blk.past' {w w' : World} {b : Nat} {e : TypeId} {vs : List Value} {r : Option Nat} (h : Blk w b e vs) (hg : w.grownBy w' r) (hne : r ≠ some b) : Blk w' b e vs := h.block (hg.block b h.lt (fun e => hne e.symm))
theorem turn_grown {w w' : World} {r : Option Nat} (h : w.grownBy w' r) : Turn r.toList w w' := ⟨h.os, h.tape, h.output, h.size, fun k hk hn => h.block k hk (fun e => hn (by rw [← e]; simp))⟩

/-- What stands behind append, and both stores. -/
theorem add_end {w2 w3 w5 : World} {o2 : Nat → Nat} {j la b : Nat} {W p : Int} {L : Lg} {v : Value} {ps : List (Ent × Value)} {e : Ent} {y v' : Value} {S : St} {sum : Int}
    (hA : LogAt w2 o2 j la b W p L v ps) (hO : OrcAt w2 o2 b S) (hj0 : j ≠ 0) (hj1 : j ≠ 1) (he : EOk e) (hsh : e.b.length ≤ 1100) (hfew : L.es.length < 200) (hsum : U64 sum)
    (hb3 : Below w2.heap.size w2 w3) (hy : Kp0 w3 (newTo o2 w2 0) y e.b) (ob : Obj) (hg : (w3.alloc ob).grownBy w5 v.ownBlock) (hrow : w5.ownsRow 0 47 8 v' (ps ++ [(e, y)]).length (flatE (ps ++ [(e, y)]))) (hwh : ∀ k, v'.ownBlock = some k → v.ownBlock = some k ∨ (w3.alloc ob).heap.size ≤ k) :
    ∃ o', OrcAt ((w5.setCell ⟨la, 3, none⟩ v').setCell ⟨la, 4, none⟩ (.int .u64 sum)) o' b S ∧ LogIs ((w5.setCell ⟨la, 3, none⟩ v').setCell ⟨la, 4, none⟩ (.int .u64 sum)) o' j la b W p ⟨L.es ++ [e], sum⟩ ∧ Mv [1, j] w2 o2 ((w5.setCell ⟨la, 3, none⟩ v').setCell ⟨la, 4, none⟩ (.int .u64 sum)) o' := by
  have m3 : Mv [1, j] w2 o2 w3 (newTo o2 w2 0) := Mv.of_below 0 hb3
  have m4 : Mv [1, j] w3 (newTo o2 w2 0) (w3.alloc ob) (newTo (newTo o2 w2 0) w3 0) := Mv.of_below 0 (balloc (Below.refl _ _) _)
  have m24 := m3.trans m4
  have hA3 := (hA.mv (Mv.of_below (I := []) 0 hb3) (by simp) (by simp)).mv (Mv.of_below (I := []) (o := newTo o2 w2 0) 0 (balloc (Below.refl w3.heap.size w3) ob)) (by simp) (by simp)
  have hO4 := (hO.mv (Mv.of_below (I := []) 0 hb3) (by simp)).mv (Mv.of_below (I := []) (o := newTo o2 w2 0) 0 (balloc (Below.refl w3.heap.size w3) ob)) (by simp)
  have hy4 := hy.mv (Mv.of_below (I := []) (o := newTo o2 w2 0) 0 (balloc (Below.refl w3.heap.size w3) ob)) (by simp)
  generalize newTo (newTo o2 w2 0) w3 0 = o4 at *
  generalize w3.alloc ob = w4 at *
  clear m3 m4 hb3 hy
  have m5 : Mv [j] w4 o4 w5 (newTo o4 w4 j) := Mv.of_turn j (turn_grown hg) (fun k hk _ => by
    have hk' : v.ownBlock = some k := by simpa using hk
    rw [(hA3.rowOwn k hk').1]; simp)
  have hO5 := hO4.mv m5 (by simp; omega)
  have hy5 := hy4.mv m5 (by simp; omega)
  have hE5 := hA3.ents.mv m5 (by simp; omega)
  have hB5 := hA3.blk.past' hg (fun e => (hA3.rowOwn la e).2 rfl)
  have own5 : (newTo o4 w4 j) la = j := by rw [newTo_old hA3.blk.lt]; exact hA3.own
  have row5 : ∀ k, v'.ownBlock = some k → (newTo o4 w4 j) k = j ∧ k ≠ la := fun k hk => by
    rcases hwh k hk with r | r
    · exact ⟨by rw [newTo_old (hA3.row.lt k r).2]; exact (hA3.rowOwn k r).1, (hA3.rowOwn k r).2⟩
    · exact ⟨newTo_new r, fun e => by have := hA3.blk.lt; omega⟩
  generalize newTo o4 w4 j = o5 at *
  have hB6 := (hB5.set 3 v').set 4 (.int .u64 sum)
  have G := grown_two (w := w5) (c := la) v' (.int .u64 sum) 3 4
  have m6 : Mv [j] w5 o5 ((w5.setCell ⟨la, 3, none⟩ v').setCell ⟨la, 4, none⟩ (.int .u64 sum)) o5 :=
    ⟨G.os, G.tape, G.output, G.size, fun _ _ => rfl, fun k hk hn => G.block k hk (fun e => hn (by have := Option.some.inj e; subst this; rw [own5]; simp))⟩
  refine ⟨o5, hO5.mv m6 (by simp; omega), ⟨v', ps ++ [(e, y)], hB6, own5, ?_, row5, ?_, ?_, ?_, ?_, hsum, hA.hp, hA.hW⟩, ?_⟩
  · exact ownsRow_block hrow (fun k hk => G.block k (hrow.lt k hk).2 (fun e => (row5 k hk).2 (Option.some.inj e)))
  · exact (hE5.append (ents_one he hy5)).mv m6 (by simp; omega)
  · intro q hq
    rcases List.mem_append.1 hq with r | r
    · exact hA.short q r
    · simp at r
      subst r
      exact hsh
  · rw [List.map_append, hA.es]
    rfl
  · rw [List.length_append, ← hA.len]
    simp
    omega
  · exact (m24.trans (m5.widen (by simp))).trans (m6.widen (by simp))

theorem add_any {w : World} {o : Nat → Nat} {j la b : Nat} {S : St} {W p : Int} {L : Lg} {e : Ent} {x : Value} (hO : OrcAt w o b S) (hL : LogIs w o j la b W p L) (hj0 : j ≠ 0) (hj1 : j ≠ 1) (he : EOk e) (hx : Kp0 w o x e.b) (hr : rightB e = true) (hfew : L.es.length < 200) (hN : S.rows.length + 1 < 1000000000) :
    Calls Try.prog 46 #[ptr la, ev e x] w fun r w' => r = .returned (.int .i64 0) ∧ ∃ o', OrcAt w' o' b (addM S L e).1 ∧ LogIs w' o' j la b W p (addM S L e).2 ∧ Mv [1, j] w o w' o' := by
  have hlen : e.b.length ≤ 1100 := ((rightB_iff e).1 hr).2.2.2.2.2.2
  have SM := fun w' ft (h : Rep w' b ft S) (hv : Rd w' x e.b) => sumE_yes w' b ft S h hN e x he hv (by omega) hr
  have hgg := get_ne hO.good (by omega) (x := .hash (bytesE e)) (bytes_oct' he).2
  have CP := fun w' o' (h : Kp0 w' o' x e.b) => copied_mv h (by omega)
  have AE := fun w2 w3 w5 o2 v ps y v' (h1 : LogAt w2 o2 j la b W p L v ps) (h2 : OrcAt w2 o2 b (S.get (.hash (bytesE e))).2) h3 h4 ob h5 h6 h7 => add_end (w2 := w2) (w3 := w3) (w5 := w5) (y := y) (v' := v') h1 h2 hj0 hj1 he hlen hfew hgg.2 h3 h4 ob h5 h6 h7
  have R1 := fun (w' : World) (y : Value) => rowE_one w' e y
  have HO1 : ∀ y w o, Kp0 w o y e.b → ∀ u ∈ flatE [(e, y)], u.oneCell' = true := fun y w o h => (ents_one he h).one
  unfold addM
  generalize S.get (.hash (bytesE e)) = t at *
  obtain ⟨sum, S'⟩ := t
  dsimp only at *
  have HX : Hid (Kp0 w o x e.b) := hx
  have HL0 : Hid (LogIs w o j la b W p L) := hL
  have HO0 : Hid (OrcAt w o b S) := hO
  obtain ⟨a, cap, rfl⟩ := hx.1.len
  obtain ⟨v, ps, hA⟩ := hL
  obtain ⟨av, cv', rfl⟩ := hA.rowE.len
  have HA0 : Hid (LogAt w o j la b W p L (.slice av ps.length cv') ps) := hA
  have HLe : Hid (ps.length = L.es.length) := hA.len.symm
  obtain ⟨ew, ei, ep, et, eu, en, eb, eg⟩ := e
  unfold ev at *
  dsimp only at *
  have HSM : Hid (∀ w' ft, Rep w' b ft S → Rd w' (.slice a eb.length cap) eb → Calls Try.prog 67 #[ptr b, .agg #[.int .i64 ew, .int .i64 ei, .int .u64 ep, .int .i64 et, .int .i64 eu, .int .i64 en, .slice a eb.length cap, .int .u64 eg]] w' fun r w'' => r = .returned (.tuple #[.int .u64 sum, .int .i64 0]) ∧ Left w' b ft S' w'') := SM
  have HCP : Hid (∀ w' o', Kp0 w' o' (.slice a eb.length cap) eb → Calls Try.prog 56 #[.agg #[.int .i64 ew, .int .i64 ei, .int .u64 ep, .int .i64 et, .int .i64 eu, .int .i64 en, .slice a eb.length cap, .int .u64 eg]] w' fun r w'' => ∃ y, r = .returned (.agg #[.int .i64 ew, .int .i64 ei, .int .u64 ep, .int .i64 et, .int .i64 eu, .int .i64 en, y, .int .u64 eg]) ∧ Kp0 w'' (newTo o' w' 0) y eb ∧ Below w'.heap.size w' w'') := CP
  have HAE : Hid (∀ (w2 w3 w5 : World) (o2 : Nat → Nat) (v : Value) (ps : List (Ent × Value)) (y v' : Value), LogAt w2 o2 j la b W p L v ps → OrcAt w2 o2 b S' → Below w2.heap.size w2 w3 → Kp0 w3 (newTo o2 w2 0) y eb → ∀ ob : Obj, (w3.alloc ob).grownBy w5 v.ownBlock → w5.ownsRow 0 47 8 v' (ps ++ [((⟨ew, ei, ep, et, eu, en, eb, eg⟩ : Ent), y)]).length (flatE (ps ++ [((⟨ew, ei, ep, et, eu, en, eb, eg⟩ : Ent), y)])) → (∀ k, v'.ownBlock = some k → v.ownBlock = some k ∨ (w3.alloc ob).heap.size ≤ k) →
      ∃ o', OrcAt ((w5.setCell ⟨la, 3, none⟩ v').setCell ⟨la, 4, none⟩ (.int .u64 sum)) o' b S' ∧ LogIs ((w5.setCell ⟨la, 3, none⟩ v').setCell ⟨la, 4, none⟩ (.int .u64 sum)) o' j la b W p ⟨L.es ++ [⟨ew, ei, ep, et, eu, en, eb, eg⟩], sum⟩ ∧ Mv [1, j] w2 o2 ((w5.setCell ⟨la, 3, none⟩ v').setCell ⟨la, 4, none⟩ (.int .u64 sum)) o') := AE
  have HR1 : Hid (∀ (w' : World) (y : Value), RowE (w'.alloc (.cells #[.int .i64 ew, .int .i64 ei, .int .u64 ep, .int .i64 et, .int .i64 eu, .int .i64 en, y, .int .u64 eg] 47)) (.slice (some ⟨w'.heap.size, 0, none⟩) 1 1) [(⟨ew, ei, ep, et, eu, en, eb, eg⟩, y)]) := R1
  have HO1' : Hid (∀ y w o, Kp0 w o y eb → ∀ u ∈ flatE [((⟨ew, ei, ep, et, eu, en, eb, eg⟩ : Ent), y)], u.oneCell' = true) := HO1
  obtain ⟨w1, hw1⟩ : ∃ w1, w1 = w.alloc (.cells #[.int .i64 ew, .int .i64 ei, .int .u64 ep, .int .i64 et, .int .i64 eu, .int .i64 en, .slice a eb.length cap, .int .u64 eg] 47) := ⟨_, rfl⟩
  have HM1 : Hid (Mv [] w o w1 (newTo o w 0)) := by show Mv _ _ _ _ _; rw [hw1]; exact Mv.of_below 0 (balloc (Below.refl _ _) _)
  have HX1 : Hid (Blk w1 w.heap.size 47 [.int .i64 ew, .int .i64 ei, .int .u64 ep, .int .i64 et, .int .i64 eu, .int .i64 en, .slice a eb.length cap, .int .u64 eg]) := by show Blk _ _ _ _; rw [hw1]; exact blk_new w [.int .i64 ew, .int .i64 ei, .int .u64 ep, .int .i64 et, .int .i64 eu, .int .i64 en, .slice a eb.length cap, .int .u64 eg] 47
  have HN0 : Hid (newTo o w 0 w.heap.size = 0) := newTo_new (Nat.le_refl _)
  have HA1 : Hid (LogAt w1 (newTo o w 0) j la b W p L (.slice av ps.length cv') ps) := HA0.out.mv HM1.out (by simp) (by simp)
  have HKX1 : Hid (Kp0 w1 (newTo o w 0) (.slice a eb.length cap) eb) := HX.out.mv HM1.out (by simp)
  have HOA : Hid (OrcAt w1 (newTo o w 0) b S) := HO0.out.mv HM1.out (by simp)
  clear SM CP AE hx hO hA hgg R1 HO1
  go_enter Try.func46, Try.ntmps46
  go_upto_region 1 with fail
  rw [← hw1]
  obtain ⟨n, hn⟩ : ∃ n, n = w.heap.size := ⟨_, rfl⟩
  rw [← hn] at HX1 HN0 ⊢
  clear hw1 hn
  obtain ⟨o1, ho1⟩ : ∃ o1, o1 = newTo o w 0 := ⟨_, rfl⟩
  rw [← ho1] at HM1 HN0 HA1 HKX1 HOA
  clear ho1
  obtain ⟨ft, hrep, hft⟩ := HOA.out
  have HRep : Hid (Rep w1 b ft S) := hrep
  have HFt : Hid (∀ k ∈ ft, o1 k = 1) := hft
  clear hrep hft
  have k0 := fun z : WIn (fun w' => Blk w' n 47 [.int .i64 ew, .int .i64 ei, .int .u64 ep, .int .i64 et, .int .i64 eu, .int .i64 en, .slice a eb.length cap, .int .u64 eg] ∧ Blk w' la 91 [ptr b, .int .i64 W, .int .u64 p, .slice av ps.length cv', .int .u64 L.sum]) => z.ok.1.cell 0 _ rfl
  have k1 := fun z : WIn (fun w' => Blk w' n 47 [.int .i64 ew, .int .i64 ei, .int .u64 ep, .int .i64 et, .int .i64 eu, .int .i64 en, .slice a eb.length cap, .int .u64 eg] ∧ Blk w' la 91 [ptr b, .int .i64 W, .int .u64 p, .slice av ps.length cv', .int .u64 L.sum]) => z.ok.1.cell 1 _ rfl
  have k2 := fun z : WIn (fun w' => Blk w' n 47 [.int .i64 ew, .int .i64 ei, .int .u64 ep, .int .i64 et, .int .i64 eu, .int .i64 en, .slice a eb.length cap, .int .u64 eg] ∧ Blk w' la 91 [ptr b, .int .i64 W, .int .u64 p, .slice av ps.length cv', .int .u64 L.sum]) => z.ok.1.cell 2 _ rfl
  have k3 := fun z : WIn (fun w' => Blk w' n 47 [.int .i64 ew, .int .i64 ei, .int .u64 ep, .int .i64 et, .int .i64 eu, .int .i64 en, .slice a eb.length cap, .int .u64 eg] ∧ Blk w' la 91 [ptr b, .int .i64 W, .int .u64 p, .slice av ps.length cv', .int .u64 L.sum]) => z.ok.1.cell 3 _ rfl
  have k4 := fun z : WIn (fun w' => Blk w' n 47 [.int .i64 ew, .int .i64 ei, .int .u64 ep, .int .i64 et, .int .i64 eu, .int .i64 en, .slice a eb.length cap, .int .u64 eg] ∧ Blk w' la 91 [ptr b, .int .i64 W, .int .u64 p, .slice av ps.length cv', .int .u64 L.sum]) => z.ok.1.cell 4 _ rfl
  have k5 := fun z : WIn (fun w' => Blk w' n 47 [.int .i64 ew, .int .i64 ei, .int .u64 ep, .int .i64 et, .int .i64 eu, .int .i64 en, .slice a eb.length cap, .int .u64 eg] ∧ Blk w' la 91 [ptr b, .int .i64 W, .int .u64 p, .slice av ps.length cv', .int .u64 L.sum]) => z.ok.1.cell 5 _ rfl
  have k6 := fun z : WIn (fun w' => Blk w' n 47 [.int .i64 ew, .int .i64 ei, .int .u64 ep, .int .i64 et, .int .i64 eu, .int .i64 en, .slice a eb.length cap, .int .u64 eg] ∧ Blk w' la 91 [ptr b, .int .i64 W, .int .u64 p, .slice av ps.length cv', .int .u64 L.sum]) => z.ok.1.cell 6 _ rfl
  have k7 := fun z : WIn (fun w' => Blk w' n 47 [.int .i64 ew, .int .i64 ei, .int .u64 ep, .int .i64 et, .int .i64 eu, .int .i64 en, .slice a eb.length cap, .int .u64 eg] ∧ Blk w' la 91 [ptr b, .int .i64 W, .int .u64 p, .slice av ps.length cv', .int .u64 L.sum]) => z.ok.1.cell 7 _ rfl
  have l0 := fun z : WIn (fun w' => Blk w' n 47 [.int .i64 ew, .int .i64 ei, .int .u64 ep, .int .i64 et, .int .i64 eu, .int .i64 en, .slice a eb.length cap, .int .u64 eg] ∧ Blk w' la 91 [ptr b, .int .i64 W, .int .u64 p, .slice av ps.length cv', .int .u64 L.sum]) => z.ok.2.cell 0 _ rfl
  have ne : Nonempty (WIn (fun w' => Blk w' n 47 [.int .i64 ew, .int .i64 ei, .int .u64 ep, .int .i64 et, .int .i64 eu, .int .i64 en, .slice a eb.length cap, .int .u64 eg] ∧ Blk w' la 91 [ptr b, .int .i64 W, .int .u64 p, .slice av ps.length cv', .int .u64 L.sum])) := ⟨⟨w1, HX1.out, HA1.out.blk⟩⟩
  refine wp_region_ord (C := fun w' => ∃ z : WIn (fun w' => Blk w' n 47 [.int .i64 ew, .int .i64 ei, .int .u64 ep, .int .i64 et, .int .i64 eu, .int .i64 en, .slice a eb.length cap, .int .u64 eg] ∧ Blk w' la 91 [ptr b, .int .i64 W, .int .u64 p, .slice av ps.length cv', .int .u64 L.sum]), w' = z.w) [(false, 0), (false, 1), (false, 2), (false, 3), (false, 4), (true, 5), (false, 6), (false, 7), (false, 8), (false, 9), (false, 10)] (by kernel_rfl) (by kernel_rfl) ⟨⟨w1.drew, HX1.out, HA1.out.blk⟩, rfl⟩ ?_
  iterate 5 (refine ord_still rfl rfl ?_; go_big_quiet_step (fail); refine wpQuiet_nil ?_)
  refine ord_mem rfl rfl ?_
  go_simp
  refine (HSM.out w1.drew ft (HRep.out.below (Below.refl _ _).drew) (HKX1.out.1.drew)).mono ?_
  rintro r w2 ⟨rfl, hl2⟩
  have HS2 : Hid (∃ o2, OrcAt w2 o2 b S' ∧ Mv [1] w1 o1 w2 o2) := ⟨_, OrcAt.left HFt.out hl2.undrew HRep.out.room⟩
  clear hl2
  obtain ⟨o2, hO2, hM2⟩ := HS2.out
  have HO2 : Hid (OrcAt w2 o2 b S') := hO2
  have HM2 : Hid (Mv [1] w1 o1 w2 o2) := hM2
  clear hO2 hM2 HS2
  have HX2 : Hid (Blk w2 n 47 [.int .i64 ew, .int .i64 ei, .int .u64 ep, .int .i64 et, .int .i64 eu, .int .i64 en, .slice a eb.length cap, .int .u64 eg]) := (show Blk _ _ _ _ from HX1.out.block (HM2.out.block n HX1.out.lt (by rw [HN0.out]; simp)))
  have HA2 : Hid (LogAt w2 o2 j la b W p L (.slice av ps.length cv') ps) := HA1.out.mv HM2.out (by simp) (by simp; omega)
  have HKX2 : Hid (Kp0 w2 o2 (.slice a eb.length cap) eb) := HKX1.out.mv HM2.out (by simp)
  refine ⟨⟨⟨w2, HX2.out, HA2.out.blk⟩, rfl⟩, ?_⟩
  iterate 5 (refine ord_still rfl rfl ?_; go_big_quiet_step (fail); refine wpQuiet_nil ?_)
  refine ord_end ?_
  clear k0 k1 k2 k3 k4 k5 k6 k7 l0 ne
  go_upto_region 4 with fail
  have HNo : Hid (o2 n = 0) := (show o2 n = 0 from by rw [HM2.out.ext n HX1.out.lt]; exact HN0.out)
  have HMa : Hid (Mv [1, j] w o w2 o2) := (show Mv _ _ _ _ _ from (HM1.out.widen (by simp)).trans (HM2.out.widen (by simp)))
  clear HM1 HM2 HX1 HA1 HKX1 HOA HRep HFt HA0 HL0 HO0 HSM
  have k0 := fun z : WIn (fun w' => Blk w' n 47 [.int .i64 ew, .int .i64 ei, .int .u64 ep, .int .i64 et, .int .i64 eu, .int .i64 en, .slice a eb.length cap, .int .u64 eg]) => z.ok.cell 0 _ rfl
  have k1 := fun z : WIn (fun w' => Blk w' n 47 [.int .i64 ew, .int .i64 ei, .int .u64 ep, .int .i64 et, .int .i64 eu, .int .i64 en, .slice a eb.length cap, .int .u64 eg]) => z.ok.cell 1 _ rfl
  have k2 := fun z : WIn (fun w' => Blk w' n 47 [.int .i64 ew, .int .i64 ei, .int .u64 ep, .int .i64 et, .int .i64 eu, .int .i64 en, .slice a eb.length cap, .int .u64 eg]) => z.ok.cell 2 _ rfl
  have k3 := fun z : WIn (fun w' => Blk w' n 47 [.int .i64 ew, .int .i64 ei, .int .u64 ep, .int .i64 et, .int .i64 eu, .int .i64 en, .slice a eb.length cap, .int .u64 eg]) => z.ok.cell 3 _ rfl
  have k4 := fun z : WIn (fun w' => Blk w' n 47 [.int .i64 ew, .int .i64 ei, .int .u64 ep, .int .i64 et, .int .i64 eu, .int .i64 en, .slice a eb.length cap, .int .u64 eg]) => z.ok.cell 4 _ rfl
  have k5 := fun z : WIn (fun w' => Blk w' n 47 [.int .i64 ew, .int .i64 ei, .int .u64 ep, .int .i64 et, .int .i64 eu, .int .i64 en, .slice a eb.length cap, .int .u64 eg]) => z.ok.cell 5 _ rfl
  have k6 := fun z : WIn (fun w' => Blk w' n 47 [.int .i64 ew, .int .i64 ei, .int .u64 ep, .int .i64 et, .int .i64 eu, .int .i64 en, .slice a eb.length cap, .int .u64 eg]) => z.ok.cell 6 _ rfl
  have k7 := fun z : WIn (fun w' => Blk w' n 47 [.int .i64 ew, .int .i64 ei, .int .u64 ep, .int .i64 et, .int .i64 eu, .int .i64 en, .slice a eb.length cap, .int .u64 eg]) => z.ok.cell 7 _ rfl
  have ne : Nonempty (WIn (fun w' => Blk w' n 47 [.int .i64 ew, .int .i64 ei, .int .u64 ep, .int .i64 et, .int .i64 eu, .int .i64 en, .slice a eb.length cap, .int .u64 eg])) := ⟨⟨w2, HX2.out⟩⟩
  refine wp_region_tree (C := fun w' => ∃ z : WIn (fun w' => Blk w' n 47 [.int .i64 ew, .int .i64 ei, .int .u64 ep, .int .i64 et, .int .i64 eu, .int .i64 en, .slice a eb.length cap, .int .u64 eg]), w' = z.w)
    (.still 0 (.still 1 (.still 2 (.still 3 (.still 4 (.still 6 (.still 10 (.two 5 (.one 7 (.one 8 (.one 9 (.still 11 (.still 12 (.one 13 (.still 14 (.still 15 (.one 16 .done))))))))) 7 (.two 5 (.one 8 (.one 9 (.still 11 (.still 12 (.one 13 (.still 14 (.still 15 (.one 16 .done)))))))) 8 (.one 5 (.one 9 (.still 11 (.still 12 (.one 13 (.still 14 (.still 15 (.one 16 .done)))))))))))))))))
    (by kernel_rfl) (by kernel_rfl) ⟨⟨w2.drew, HX2.out⟩, rfl⟩ ?_
  iterate 7 (refine tree_still rfl rfl ?_; go_big_quiet_step (fail); refine wpQuiet_nil ?_)
  have c3 := HA2.out.blk.cell 3 _ rfl
  have HC3 : Hid (∀ w', Below w2.heap.size w2 w' → w'.cell? ⟨la, 3, none⟩ = some (.slice av ps.length cv')) := fun w' h => (HA2.out.blk.below h).cell 3 _ rfl
  have HRow : Hid (∀ w', Below w2.heap.size w2 w' → w'.ownsRow 0 47 8 (.slice av ps.length cv') ps.length (flatE ps)) := fun w' h => (HA2.out.mv (Mv.of_below (I := []) 0 h) (by simp) (by simp)).row
  have HN2 : Hid (o2 n = 0) := HNo.out
  have HNl : Hid (n ≠ la) := fun e => by have h1 := HN2.out; rw [e, HA2.out.own] at h1; exact hj0 h1
  have HNr : Hid (∀ k, (Value.slice av ps.length cv').ownBlock = some k → n = k → False) := fun k hk e => by have h1 := HN2.out; rw [e, (HA2.out.rowOwn k hk).1] at h1; exact hj0 h1
  refine tree_two rfl rfl rfl rfl ?_ ?_
  · go_simp
    refine ⟨⟨⟨w2.drew, HX2.out⟩, rfl⟩, ?_⟩
    refine tree_one rfl rfl ?_
    go_simp
    refine (HCP.out w2.drew o2 HKX2.out).mono ?_
    rintro r w3 ⟨y, rfl, hy, hb3⟩
    obtain ⟨ay, cy, hyy⟩ := hy.1.len
    subst hyy
    have HB3 : Hid (Below w2.heap.size w2 w3) := below_undrew hb3
    have HY : Hid (Kp0 w3 (newTo o2 w2 0) (.slice ay eb.length cy) eb) := hy
    clear hb3 hy
    have d3 := HC3.out w3 HB3.out
    refine ⟨⟨⟨w3, HX2.out.below HB3.out⟩, rfl⟩, ?_⟩
    refine tree_one rfl rfl ?_
    go_simp
    refine ⟨⟨⟨_, (HX2.out.below HB3.out).alloc _⟩, rfl⟩, ?_⟩
    all_goals
      refine tree_one rfl rfl ?_
      refine wp_of_list rfl ?_
      refine wpList_append_ents rfl (.tmp 24) (.tmp 27) rfl (.slice av ps.length cv') ps rfl (HRow.out _ (balloc HB3.out _)) _ [((⟨ew, ei, ep, et, eu, en, eb, eg⟩ : Ent), .slice ay eb.length cy)] rfl (HR1.out w3 _) (HO1'.out _ _ _ HY.out) (by have := HLe.out; simp; omega) ?_
      intro v' w5 hrow hg hwh
      obtain ⟨av', cv2, hv', _⟩ := slice_of_own hrow
      subst hv'
      have HE : Hid (∃ o', OrcAt ((w5.setCell ⟨la, 3, none⟩ _).setCell ⟨la, 4, none⟩ (.int .u64 sum)) o' b S' ∧ LogIs ((w5.setCell ⟨la, 3, none⟩ _).setCell ⟨la, 4, none⟩ (.int .u64 sum)) o' j la b W p ⟨L.es ++ [⟨ew, ei, ep, et, eu, en, eb, eg⟩], sum⟩ ∧ Mv [1, j] w2 o2 ((w5.setCell ⟨la, 3, none⟩ _).setCell ⟨la, 4, none⟩ (.int .u64 sum)) o') := HAE.out w2 w3 w5 o2 _ ps _ _ HA2.out HO2.out HB3.out HY.out _ hg hrow hwh
      have HX5 : Hid (Blk w5 n 47 [.int .i64 ew, .int .i64 ei, .int .u64 ep, .int .i64 et, .int .i64 eu, .int .i64 en, .slice a eb.length cap, .int .u64 eg]) := (show Blk _ _ _ _ from ((HX2.out.below HB3.out).alloc _).past' hg (fun e => HNr.out n e rfl))
      have B5 := ((HA2.out.blk.below HB3.out).alloc (.cells #[.int .i64 ew, .int .i64 ei, .int .u64 ep, .int .i64 et, .int .i64 eu, .int .i64 en, .slice ay eb.length cy, .int .u64 eg] 47)).past' hg (fun e => (HA2.out.rowOwn la e).2 rfl)
      have b3 := B5.cell 3 _ rfl
      have b4 := B5.cell 4 _ rfl
      have g3 := B5.frozen 3
      have g4 := B5.frozen 4
      clear B5 hrow hg hwh
      refine ⟨rfl, ⟨⟨w5, HX5.out⟩, rfl⟩, ?_⟩
      go_simp
      iterate 2 (refine tree_still rfl rfl ?_; go_big_quiet_step (fail); refine wpQuiet_nil ?_)
      refine tree_one rfl rfl ?_
      go_simp
      refine ⟨⟨⟨_, HX5.out.past (grown_setCell _ _ _ _) HNl.out⟩, rfl⟩, ?_⟩
      iterate 2 (refine tree_still rfl rfl ?_; go_big_quiet_step (fail); refine wpQuiet_nil ?_)
      refine tree_one rfl rfl ?_
      go_simp
      refine ⟨⟨⟨_, (HX5.out.past (grown_setCell _ _ _ _) HNl.out).past (grown_setCell _ _ _ _) HNl.out⟩, rfl⟩, ?_⟩
      refine tree_done ?_
      clear k0 k1 k2 k3 k4 k5 k6 k7 ne
      go_wp2
      go_ret
      have HE' := HE.out
      simp only [List.length_append, List.length_cons, List.length_nil, Nat.zero_add] at HE'
      obtain ⟨o', h1, h2, h3⟩ := HE'
      exact ⟨rfl, o', h1, h2, HMa.out.trans h3⟩
  · go_simp
    refine (HCP.out w2.drew o2 HKX2.out).mono ?_
    rintro r w3 ⟨y, rfl, hy, hb3⟩
    obtain ⟨ay, cy, hyy⟩ := hy.1.len
    subst hyy
    have HB3 : Hid (Below w2.heap.size w2 w3) := below_undrew hb3
    have HY : Hid (Kp0 w3 (newTo o2 w2 0) (.slice ay eb.length cy) eb) := hy
    clear hb3 hy
    have d3 := HC3.out w3 HB3.out
    refine ⟨⟨⟨w3, HX2.out.below HB3.out⟩, rfl⟩, ?_⟩
    refine tree_two rfl rfl rfl rfl ?_ ?_
    · go_simp
      refine ⟨⟨⟨w3, HX2.out.below HB3.out⟩, rfl⟩, ?_⟩
      refine tree_one rfl rfl ?_
      go_simp
      refine ⟨⟨⟨_, (HX2.out.below HB3.out).alloc _⟩, rfl⟩, ?_⟩
      refine tree_one rfl rfl ?_
      refine wp_of_list rfl ?_
      refine wpList_append_ents rfl (.tmp 24) (.tmp 27) rfl (.slice av ps.length cv') ps rfl (HRow.out _ (balloc HB3.out _)) _ [((⟨ew, ei, ep, et, eu, en, eb, eg⟩ : Ent), .slice ay eb.length cy)] rfl (HR1.out w3 _) (HO1'.out _ _ _ HY.out) (by have := HLe.out; simp; omega) ?_
      intro v' w5 hrow hg hwh
      obtain ⟨av', cv2, hv', _⟩ := slice_of_own hrow
      subst hv'
      have HE : Hid (∃ o', OrcAt ((w5.setCell ⟨la, 3, none⟩ _).setCell ⟨la, 4, none⟩ (.int .u64 sum)) o' b S' ∧ LogIs ((w5.setCell ⟨la, 3, none⟩ _).setCell ⟨la, 4, none⟩ (.int .u64 sum)) o' j la b W p ⟨L.es ++ [⟨ew, ei, ep, et, eu, en, eb, eg⟩], sum⟩ ∧ Mv [1, j] w2 o2 ((w5.setCell ⟨la, 3, none⟩ _).setCell ⟨la, 4, none⟩ (.int .u64 sum)) o') := HAE.out w2 w3 w5 o2 _ ps _ _ HA2.out HO2.out HB3.out HY.out _ hg hrow hwh
      have HX5 : Hid (Blk w5 n 47 [.int .i64 ew, .int .i64 ei, .int .u64 ep, .int .i64 et, .int .i64 eu, .int .i64 en, .slice a eb.length cap, .int .u64 eg]) := (show Blk _ _ _ _ from ((HX2.out.below HB3.out).alloc _).past' hg (fun e => HNr.out n e rfl))
      have B5 := ((HA2.out.blk.below HB3.out).alloc (.cells #[.int .i64 ew, .int .i64 ei, .int .u64 ep, .int .i64 et, .int .i64 eu, .int .i64 en, .slice ay eb.length cy, .int .u64 eg] 47)).past' hg (fun e => (HA2.out.rowOwn la e).2 rfl)
      have b3 := B5.cell 3 _ rfl
      have b4 := B5.cell 4 _ rfl
      have g3 := B5.frozen 3
      have g4 := B5.frozen 4
      clear B5 hrow hg hwh
      refine ⟨rfl, ⟨⟨w5, HX5.out⟩, rfl⟩, ?_⟩
      go_simp
      iterate 2 (refine tree_still rfl rfl ?_; go_big_quiet_step (fail); refine wpQuiet_nil ?_)
      refine tree_one rfl rfl ?_
      go_simp
      refine ⟨⟨⟨_, HX5.out.past (grown_setCell _ _ _ _) HNl.out⟩, rfl⟩, ?_⟩
      iterate 2 (refine tree_still rfl rfl ?_; go_big_quiet_step (fail); refine wpQuiet_nil ?_)
      refine tree_one rfl rfl ?_
      go_simp
      refine ⟨⟨⟨_, (HX5.out.past (grown_setCell _ _ _ _) HNl.out).past (grown_setCell _ _ _ _) HNl.out⟩, rfl⟩, ?_⟩
      refine tree_done ?_
      clear k0 k1 k2 k3 k4 k5 k6 k7 ne
      go_wp2
      go_ret
      have HE' := HE.out
      simp only [List.length_append, List.length_cons, List.length_nil, Nat.zero_add] at HE'
      obtain ⟨o', h1, h2, h3⟩ := HE'
      exact ⟨rfl, o', h1, h2, HMa.out.trans h3⟩
    · go_simp
      refine ⟨⟨⟨_, (HX2.out.below HB3.out).alloc _⟩, rfl⟩, ?_⟩
      have e3 := HC3.out _ (balloc HB3.out (.cells #[.int .i64 ew, .int .i64 ei, .int .u64 ep, .int .i64 et, .int .i64 eu, .int .i64 en, .slice ay eb.length cy, .int .u64 eg] 47))
      refine tree_one rfl rfl ?_
      go_simp
      refine ⟨⟨⟨_, (HX2.out.below HB3.out).alloc _⟩, rfl⟩, ?_⟩
      refine tree_one rfl rfl ?_
      refine wp_of_list rfl ?_
      refine wpList_append_ents rfl (.tmp 24) (.tmp 27) rfl (.slice av ps.length cv') ps rfl (HRow.out _ (balloc HB3.out _)) _ [((⟨ew, ei, ep, et, eu, en, eb, eg⟩ : Ent), .slice ay eb.length cy)] rfl (HR1.out w3 _) (HO1'.out _ _ _ HY.out) (by have := HLe.out; simp; omega) ?_
      intro v' w5 hrow hg hwh
      obtain ⟨av', cv2, hv', _⟩ := slice_of_own hrow
      subst hv'
      have HE : Hid (∃ o', OrcAt ((w5.setCell ⟨la, 3, none⟩ _).setCell ⟨la, 4, none⟩ (.int .u64 sum)) o' b S' ∧ LogIs ((w5.setCell ⟨la, 3, none⟩ _).setCell ⟨la, 4, none⟩ (.int .u64 sum)) o' j la b W p ⟨L.es ++ [⟨ew, ei, ep, et, eu, en, eb, eg⟩], sum⟩ ∧ Mv [1, j] w2 o2 ((w5.setCell ⟨la, 3, none⟩ _).setCell ⟨la, 4, none⟩ (.int .u64 sum)) o') := HAE.out w2 w3 w5 o2 _ ps _ _ HA2.out HO2.out HB3.out HY.out _ hg hrow hwh
      have HX5 : Hid (Blk w5 n 47 [.int .i64 ew, .int .i64 ei, .int .u64 ep, .int .i64 et, .int .i64 eu, .int .i64 en, .slice a eb.length cap, .int .u64 eg]) := (show Blk _ _ _ _ from ((HX2.out.below HB3.out).alloc _).past' hg (fun e => HNr.out n e rfl))
      have B5 := ((HA2.out.blk.below HB3.out).alloc (.cells #[.int .i64 ew, .int .i64 ei, .int .u64 ep, .int .i64 et, .int .i64 eu, .int .i64 en, .slice ay eb.length cy, .int .u64 eg] 47)).past' hg (fun e => (HA2.out.rowOwn la e).2 rfl)
      have b3 := B5.cell 3 _ rfl
      have b4 := B5.cell 4 _ rfl
      have g3 := B5.frozen 3
      have g4 := B5.frozen 4
      clear B5 hrow hg hwh
      refine ⟨rfl, ⟨⟨w5, HX5.out⟩, rfl⟩, ?_⟩
      go_simp
      iterate 2 (refine tree_still rfl rfl ?_; go_big_quiet_step (fail); refine wpQuiet_nil ?_)
      refine tree_one rfl rfl ?_
      go_simp
      refine ⟨⟨⟨_, HX5.out.past (grown_setCell _ _ _ _) HNl.out⟩, rfl⟩, ?_⟩
      iterate 2 (refine tree_still rfl rfl ?_; go_big_quiet_step (fail); refine wpQuiet_nil ?_)
      refine tree_one rfl rfl ?_
      go_simp
      refine ⟨⟨⟨_, (HX5.out.past (grown_setCell _ _ _ _) HNl.out).past (grown_setCell _ _ _ _) HNl.out⟩, rfl⟩, ?_⟩
      refine tree_done ?_
      clear k0 k1 k2 k3 k4 k5 k6 k7 ne
      go_wp2
      go_ret
      have HE' := HE.out
      simp only [List.length_append, List.length_cons, List.length_nil, Nat.zero_add] at HE'
      obtain ⟨o', h1, h2, h3⟩ := HE'
      exact ⟨rfl, o', h1, h2, HMa.out.trans h3⟩
end Go.Proofs.Yteedjdflojfhmaa
