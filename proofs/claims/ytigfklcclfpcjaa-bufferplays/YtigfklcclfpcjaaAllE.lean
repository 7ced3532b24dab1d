/-
  Are lists of entries the same? (the reference's All); Odds.
-/
import Derived.Test.YtigfklcclfpcjaaRowsE
namespace Go.Proofs.Ytigfklcclfpcjaa
set_option linter.unusedVariables false
set_option linter.unusedSimpArgs false
set_option synthInstance.maxSize 20000
set_option maxHeartbeats 2000000
set_option maxRecDepth 20000
open Go.RowKit Go.Maps

theorem map_ne {ps qs : List (Ent × Value)} {i : Nat} {p q : Ent × Value} (hp : ps[i]? = some p) (hq : qs[i]? = some q) (hne : p.1 ≠ q.1) : ps.map (·.1) ≠ qs.map (·.1) := fun e => by
  have h : (ps.map (·.1))[i]? = (qs.map (·.1))[i]? := by rw [e]
  rw [List.getElem?_map, List.getElem?_map, hp, hq] at h
  exact hne (Option.some.inj h)

open Classical in
theorem refall_any {w : World} {o : Nat → Nat} {v v' : Value} {ps qs : List (Ent × Value)} (hv : RowE w v ps) (hE : Ents w o ps) (hv' : RowE w v' qs) (hE' : Ents w o qs) :
    Calls Try.prog 15 #[v, v'] w fun r w' => r = .returned (.bool (decide (ps.map (·.1) = qs.map (·.1)))) ∧ Below w.heap.size w w' := by
  obtain ⟨a, cap, rfl⟩ := hv.len
  obtain ⟨a', cap', rfl⟩ := hv'.len
  have hcap := hv.cap
  have hcap' := hv'.cap
  have HV : Hid (RowE w (.slice a ps.length cap) ps) := hv
  have HV' : Hid (RowE w (.slice a' qs.length cap') qs) := hv'
  have HE : Hid (Ents w o ps) := hE
  have HE' : Hid (Ents w o qs) := hE'
  clear hv hv' hE hE'
  by_cases hlen : ps.length = qs.length
  · have hl2 : (qs.length : Int) = ps.length := by omega
    have HLn : Hid (ps.length = qs.length) := hlen
    rw [← hlen] at HV' ⊢
    clear hlen hl2
    go_enter Try.func15, Try.ntmps15
    go_wp2
    go_loopw [5] (fun i wr => ∃ k : Nat, i = .int .i64 k ∧ k ≤ ps.length ∧ Hid (Below w.heap.size w wr) ∧ Hid (∀ i p q, i < k → ps[i]? = some p → qs[i]? = some q → p.1 = q.1)) (fun i _ => ps.length - (intOf i).toNat)
    case atStart => exact ⟨0, rfl, by omega, (show Below _ _ _ from Below.refl _ _), fun i p q h => by omega⟩
    case round =>
      obtain ⟨k, rfl, hk, HB, HS⟩ := hrel
      by_cases hk8 : k < ps.length
      · obtain ⟨p, hp⟩ : ∃ p, ps[k]? = some p := ⟨_, List.getElem?_eq_getElem hk8⟩
        obtain ⟨q, hq⟩ : ∃ q, qs[k]? = some q := ⟨_, List.getElem?_eq_getElem (by rw [← HLn.out]; exact hk8)⟩
        obtain ⟨g, off, ea, hc⟩ := (HV.out.below HB.out).at hp
        subst ea
        obtain ⟨g', off', ea, hc'⟩ := (HV'.out.below HB.out).at hq
        subst ea
        have HX : Hid (Rd wr p.2 p.1.b) := (show Rd _ _ _ from (HE.out p (List.mem_of_getElem? hp)).2.1.below HB.out)
        have HX' : Hid (Rd wr q.2 q.1.b) := (show Rd _ _ _ from (HE'.out q (List.mem_of_getElem? hq)).2.1.below HB.out)
        have SM := fun w' (h : Rd w' p.2 p.1.b) (h' : Rd w' q.2 q.1.b) => refsameE_any w' p.1 q.1 p.2 q.2 h h'
        have HYes : Hid (sameB p.1 q.1 = true → ∀ i p q, i < k + 1 → ps[i]? = some p → qs[i]? = some q → p.1 = q.1) := fun hs i p1 q1 hi hp1 hq1 => by
          by_cases e : i = k
          · subst e
            rw [hp] at hp1
            rw [hq] at hq1
            cases hp1
            cases hq1
            exact (sameB_iff _ _).1 hs
          · exact HS.out i p1 q1 (by omega) hp1 hq1
        have HNo : Hid (sameB p.1 q.1 = false → ps.map (·.1) ≠ qs.map (·.1)) := fun hs => map_ne hp hq (fun e => by rw [(sameB_iff _ _).2 e] at hs; cases hs)
        generalize sameB p.1 q.1 = sb at *
        obtain ⟨e, x⟩ := p
        obtain ⟨f, y⟩ := q
        dsimp only at *
        obtain ⟨ax, cx, hxx⟩ := HX.out.len
        subst hxx
        obtain ⟨ay, cy, hyy⟩ := HX'.out.len
        subst hyy
        obtain ⟨ew, ei, ep, et, eu, en, eb, eg⟩ := e
        obtain ⟨fw, fi, fp, ft, fu, fn, fb, fg⟩ := f
        unfold ec at hc hc'
        unfold ev at SM
        dsimp only at *
        have HSM : Hid (∀ w', Rd w' (.slice ax eb.length cx) eb → Rd w' (.slice ay fb.length cy) fb → Calls Try.prog 14 #[.agg #[.int .i64 ew, .int .i64 ei, .int .u64 ep, .int .i64 et, .int .i64 eu, .int .i64 en, .slice ax eb.length cx, .int .u64 eg], .agg #[.int .i64 fw, .int .i64 fi, .int .u64 fp, .int .i64 ft, .int .i64 fu, .int .i64 fn, .slice ay fb.length cy, .int .u64 fg]] w' fun r w'' => r = .returned (.bool sb) ∧ Below w'.heap.size w' w'') := SM
        have HC : Hid (∀ w', Below wr.heap.size wr w' → ∀ j u, [.int .i64 ew, .int .i64 ei, .int .u64 ep, .int .i64 et, .int .i64 eu, .int .i64 en, .slice ax eb.length cx, .int .u64 eg][j]? = some u → w'.cell? ⟨g, off + k * 8 + j, none⟩ = some u) := fun w' hb' j u hu => by
          have h1 := hc j u hu
          rw [World.cell?_of_block (hb'.block g (World.block_lt_of_cell? wr _ h1))]
          exact h1
        have HC' : Hid (∀ w', Below wr.heap.size wr w' → ∀ j u, [.int .i64 fw, .int .i64 fi, .int .u64 fp, .int .i64 ft, .int .i64 fu, .int .i64 fn, .slice ay fb.length cy, .int .u64 fg][j]? = some u → w'.cell? ⟨g', off' + k * 8 + j, none⟩ = some u) := fun w' hb' j u hu => by
          have h1 := hc' j u hu
          rw [World.cell?_of_block (hb'.block g' (World.block_lt_of_cell? wr _ h1))]
          exact h1
        clear hc hc' SM hp hq
        go_upto_region 6 with fail
        have c0 := fun z : WIn (fun w' => Below wr.heap.size wr w') => HC.out z.w z.ok 0 _ rfl
        have c1 := fun z : WIn (fun w' => Below wr.heap.size wr w') => HC.out z.w z.ok 1 _ rfl
        have c2 := fun z : WIn (fun w' => Below wr.heap.size wr w') => HC.out z.w z.ok 2 _ rfl
        have c3 := fun z : WIn (fun w' => Below wr.heap.size wr w') => HC.out z.w z.ok 3 _ rfl
        have c4 := fun z : WIn (fun w' => Below wr.heap.size wr w') => HC.out z.w z.ok 4 _ rfl
        have c5 := fun z : WIn (fun w' => Below wr.heap.size wr w') => HC.out z.w z.ok 5 _ rfl
        have c6 := fun z : WIn (fun w' => Below wr.heap.size wr w') => HC.out z.w z.ok 6 _ rfl
        have c7 := fun z : WIn (fun w' => Below wr.heap.size wr w') => HC.out z.w z.ok 7 _ rfl
        have d0 := fun z : WIn (fun w' => Below wr.heap.size wr w') => HC'.out z.w z.ok 0 _ rfl
        have d1 := fun z : WIn (fun w' => Below wr.heap.size wr w') => HC'.out z.w z.ok 1 _ rfl
        have d2 := fun z : WIn (fun w' => Below wr.heap.size wr w') => HC'.out z.w z.ok 2 _ rfl
        have d3 := fun z : WIn (fun w' => Below wr.heap.size wr w') => HC'.out z.w z.ok 3 _ rfl
        have d4 := fun z : WIn (fun w' => Below wr.heap.size wr w') => HC'.out z.w z.ok 4 _ rfl
        have d5 := fun z : WIn (fun w' => Below wr.heap.size wr w') => HC'.out z.w z.ok 5 _ rfl
        have d6 := fun z : WIn (fun w' => Below wr.heap.size wr w') => HC'.out z.w z.ok 6 _ rfl
        have d7 := fun z : WIn (fun w' => Below wr.heap.size wr w') => HC'.out z.w z.ok 7 _ rfl
        simp only [Nat.add_zero] at c0 d0
        have ne : Nonempty (WIn (fun w' => Below wr.heap.size wr w')) := ⟨⟨wr, Below.refl _ _⟩⟩
        refine wp_region_ord (C := fun w' => ∃ z : WIn (fun w' => Below wr.heap.size wr w'), w' = z.w) [(false, 0), (false, 1), (false, 2), (false, 3), (false, 4), (false, 5), (false, 6), (false, 7), (true, 8), (false, 9)] (by kernel_rfl) (by kernel_rfl) ⟨⟨wr.drew, (Below.refl _ _).drew⟩, rfl⟩ ?_
        iterate 8 (refine ord_still rfl rfl ?_; go_big_quiet_step (fail); refine wpQuiet_nil ?_)
        refine ord_mem rfl rfl ?_
        go_simp
        refine (HSM.out wr.drew HX.out.drew HX'.out.drew).mono ?_
        rintro r w2 ⟨rfl, hb2⟩
        have HB2 : Hid (Below wr.heap.size wr w2) := below_undrew hb2
        clear hb2
        refine ⟨⟨⟨w2, HB2.out⟩, rfl⟩, ?_⟩
        cases sb
        · refine ord_still rfl rfl ?_
          go_big_quiet_step (fail)
          refine wpQuiet_nil ?_
          refine ord_end ?_
          clear c0 c1 c2 c3 c4 c5 c6 c7 d0 d1 d2 d3 d4 d5 d6 d7 ne
          go_wp2
          go_ret
          exact ⟨by rw [decide_eq_false (by first | exact HNo.out rfl | exact HNo.out trivial)]; rfl, bnext HB.out HB2.out⟩
        · refine ord_still rfl rfl ?_
          go_big_quiet_step (fail)
          refine wpQuiet_nil ?_
          refine ord_end ?_
          clear c0 c1 c2 c3 c4 c5 c6 c7 d0 d1 d2 d3 d4 d5 d6 d7 ne
          go_wp2
          go_roundw
          case rel => exact ⟨k + 1, by go_num, by omega, (show Below _ _ _ from bnext HB.out HB2.out), by first | exact HYes.out rfl | exact HYes.out trivial⟩
          case measure => simp [intOf]; omega
      · obtain rfl : k = ps.length := by omega
        have he : Hid (ps.map (·.1) = qs.map (·.1)) := by
          show _ = _
          apply List.ext_getElem?
          intro i
          rw [List.getElem?_map, List.getElem?_map]
          by_cases hi : i < ps.length
          · obtain ⟨p, hp⟩ : ∃ p, ps[i]? = some p := ⟨_, List.getElem?_eq_getElem hi⟩
            obtain ⟨q, hq⟩ : ∃ q, qs[i]? = some q := ⟨_, List.getElem?_eq_getElem (by rw [← HLn.out]; exact hi)⟩
            rw [hp, hq]
            exact congrArg some (HS.out i p q hi hp hq)
          · rw [List.getElem?_eq_none (by omega), List.getElem?_eq_none (by rw [← HLn.out]; omega)]
        go_wp2
        go_ret
        exact ⟨by rw [decide_eq_true he.out]; rfl, HB.out⟩
  · have hne : ps.map (·.1) ≠ qs.map (·.1) := fun e => hlen (by have := congrArg List.length e; simpa using this)
    rw [decide_eq_false hne]
    have h1 : ((ps.length : Int) != qs.length) = true := by simp; omega
    clear hne hlen
    go_enter Try.func15, Try.ntmps15
    go_wp2
    go_ret
    exact ⟨rfl, Below.refl _ _⟩
open Classical in
theorem refall_eq {w : World} {o : Nat → Nat} {v v' : Value} {ps qs : List (Ent × Value)} (hv : RowE w v ps) (hE : Ents w o ps) (hv' : RowE w v' qs) (hE' : Ents w o qs) (h : ps.map (·.1) = qs.map (·.1)) : Calls Try.prog 15 #[v, v'] w fun r w' => r = .returned (.bool true) ∧ Below w.heap.size w w' := by
  have := refall_any hv hE hv' hE'
  rwa [decide_eq_true h] at this
open Classical in
theorem refall_ne {w : World} {o : Nat → Nat} {v v' : Value} {ps qs : List (Ent × Value)} (hv : RowE w v ps) (hE : Ents w o ps) (hv' : RowE w v' qs) (hE' : Ents w o qs) (h : ps.map (·.1) ≠ qs.map (·.1)) : Calls Try.prog 15 #[v, v'] w fun r w' => r = .returned (.bool false) ∧ Below w.heap.size w w' := by
  have := refall_any hv hE hv' hE'
  rwa [decide_eq_false h] at this
end Go.Proofs.Ytigfklcclfpcjaa
