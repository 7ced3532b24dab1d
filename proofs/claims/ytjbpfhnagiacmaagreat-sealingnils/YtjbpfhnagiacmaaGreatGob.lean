/-
  The ring's unwrap: which wrap is for its owner, and what the oracle tells of it.
  The ring's ahead: what an epoch's Old tells of the key of the epoch ahead.
  The ring's goBack: keys of epochs ahead, as far as their Olds tell; then the Olds are struck.
-/
import Derived.Test.YtjbpfhnagiacmaaGreatRgt
import Derived.Test.YtjbpfhnagiacmaaGreatNwF
namespace Go.Proofs.YtjbpfhnagiacmaaGreat
section
set_option linter.unusedVariables false
set_option linter.unusedSimpArgs false
set_option synthInstance.maxSize 20000
set_option maxHeartbeats 2000000
set_option maxRecDepth 20000
open Go.RowKit Go.Maps
theorem idxG_find2 {α : Type} {l : List α} {p : α → Bool} : (l.find? p = none ∧ idxG p l = -1) ∨ ∃ (i : Nat) (m : α), l.find? p = some m ∧ idxG p l = (i : Int) ∧ l[i]? = some m := by
  cases h : l.findIdx? p with
  | none =>
    left
    unfold idxG
    rw [h]
    refine ⟨?_, rfl⟩
    rw [List.findIdx?_eq_none_iff] at h
    rw [List.find?_eq_none]
    intro x hx
    rw [h x hx]
    simp
  | some i =>
    right
    obtain ⟨h1, h2, h3⟩ := List.findIdx?_eq_some_iff_getElem.1 h
    refine ⟨i, l[i], ?_, by unfold idxG; rw [h], List.getElem?_eq_getElem h1⟩
    rw [List.find?_eq_some_iff_getElem]
    exact ⟨h2, i, h1, rfl, fun j hj => by simpa using h3 j hj⟩
def isW (who : Int) (q : Wq) : Bool := decide (q.1.w = who)
theorem unw_find (S : St) (who sec : Int) (qs : List Wq) : unwM S who sec (qs.map (·.1)) = match qs.find? (isW who) with
  | none => (0, 11)
  | some q => S.unwrap sec q.1.b := by
  unfold unwM
  rw [List.find?_map]
  have : (fun x : Wp => decide (x.w = who)) ∘ (fun q : Wq => q.1) = isW who := rfl
  rw [this]
  cases qs.find? (isW who) <;> rfl
theorem clos81 (q : Wq) {T : TypeId} {who : Int} (w : World) (pb rb : Nat) (hq : ∃ a n c, q.2 = .slice a n c) (hb : Blk w pb 39 [ptr rb]) {vs : List Value} (hr : Blk w rb 114 vs) (hw : vs[1]? = some (.int .i64 who)) : Calls Tryz.prog 110 #[wv q, ptr pb] w fun r w' => r = .returned (.bool (isW who q)) ∧ Below w.heap.size w w' := by
  obtain ⟨⟨x, bs⟩, bv⟩ := q
  obtain ⟨a, n, c, hq⟩ := hq
  dsimp only at hq
  subst hq
  unfold wv isW
  dsimp only
  obtain ⟨w1, hw1⟩ : ∃ w1, w1 = w.alloc (.cells #[.int .i64 x, .slice a n c] 158) := ⟨_, rfl⟩
  have HW1 : Hid (w1 = w.alloc (.cells #[.int .i64 x, .slice a n c] 158)) := hw1
  have HB1 : Hid (Below w.heap.size w w1) := (by show Below _ _ _; rw [hw1]; exact balloc (Below.refl _ _) _)
  have k2 : Blk w1 w.heap.size 158 [.int .i64 x, .slice a n c] := by rw [hw1]; exact blk_new w _ 158
  have k0 := (hb.below HB1.out).cell 0 _ rfl
  have k1 := (hr.below HB1.out).cell 1 _ hw
  have hcl : ∀ (z : WIn (fun w' => Below w1.heap.size w1 w')) p v, w1.cell? p = some v → z.w.cell? p = some v := fun z p v hp => (z.ok.cell (World.block_lt_of_cell? w1 _ hp)).trans hp
  have y0 := fun z => hcl z _ _ k0; have y1 := fun z => hcl z _ _ k1; have y2 := fun z => hcl z _ _ (k2.cell 0 _ rfl)
  have HD : Hid (Below w1.heap.size w1 w1.drew) := (show Below _ _ _ from (Below.refl _ _).drew)
  have ne : Nonempty (WIn (fun w' => Below w1.heap.size w1 w')) := ⟨⟨w1, Below.refl _ _⟩⟩
  clear hb hr hw hw1 k0 k1 k2 hcl
  go_enter Tryz.func110, Tryz.ntmps110
  go_upto_region 1 with fail
  rw [← HW1.out]
  refine wp_region_ord (C := fun w' => ∃ z : WIn (fun w' => Below w1.heap.size w1 w'), w' = z.w) [(false, 0), (false, 1), (false, 2), (false, 3), (false, 4), (false, 5), (false, 6), (false, 7)] (by kernel_rfl) (by kernel_rfl) ⟨⟨w1.drew, HD.out⟩, rfl⟩ ?_
  iterate 8 (refine ord_still rfl rfl ?_; go_big_quiet_step (exact rfl); refine wpQuiet_nil ?_)
  refine ord_end ?_
  go_wp2
  go_ret
  refine ⟨?_, bnext HB1.out HD.out⟩
  first | rfl | exact ret_bool (by simp)
theorem enter81 : ∀ args w, (callFunc 110 args).run Tryz.prog w = .ok (.enter 110 args) w := Go.Proofs.enters_of Tryz.func110 (by kernel_rfl) rfl
theorem unwrap47 {w : World} {o : Nat → Nat} {j rb ob : Nat} {who sec : Int} {S : St} {ks : List Int} {kv ov : Value} {os : List VB} (hR : RgAt 114 [ptr ob, .int .i64 who, .int .u64 sec] w o j rb ks kv ov os) (hO : OrcAt w o ob S) {v : Value} {qs : List Wq} (hv : RowF wq w v qs) (hr : ∀ q ∈ qs, Rd w q.2 q.1.b) :
    Calls Tryz.prog 70 #[ptr rb, v] w fun x w' => x = .returned (.tuple #[.int .u64 (unwM S who sec (qs.map (·.1))).1, .int .i64 (unwM S who sec (qs.map (·.1))).2]) ∧ Below w.heap.size w w' := by
  have HB1 : Hid (Below w.heap.size w (w.alloc (.cells #[ptr rb] 39))) := (show Below _ _ _ from balloc (Below.refl _ _) _)
  have HC : Hid (Calls Tryz.prog 109 #[v, .func (.func 110) #[] #[ptr w.heap.size]] (w.alloc (.cells #[ptr rb] 39)) fun r w' => r = .returned (.int .i64 (idxG (isW who) qs)) ∧ Below (w.alloc (.cells #[ptr rb] 39)).heap.size (w.alloc (.cells #[ptr rb] 39)) w') :=
    idx83 (hv.below HB1.out) (isW who) 110 #[ptr w.heap.size] enter81 (fun w' q hb hq => clos81 q (T := 114) w' w.heap.size rb (by obtain ⟨a, c, e⟩ := (hr q hq).len; exact ⟨a, _, c, e⟩) ((blk_new w [ptr rb] 39).below hb) ((hR.blk.below HB1.out).below hb) rfl)
  rw [unw_find]
  obtain ⟨av, cap, rfl⟩ := hv.len
  have hcap := hv.caps
  have hc1 : qs.length ≤ cap := hcap.2.1
  have hc2 : cap ≤ 9223372036854775807 := hcap.2.2
  have X0 : Hid (Blk (w.alloc (.cells #[ptr rb] 39)) w.heap.size 39 [ptr rb]) := (blk_new w [ptr rb] 39)
  have X1 : Hid (Blk w rb 114 [ptr ob, .int .i64 who, .int .u64 sec, kv, ov]) := hR.blk
  have HO : Hid (OrcAt w o ob S) := hO
  have HV : Hid (RowF wq w (.slice av qs.length cap) qs) := hv
  have HR : Hid (∀ q ∈ qs, Rd w q.2 q.1.b) := hr
  obtain ⟨n, hn⟩ : ∃ n, n = qs.length := ⟨_, rfl⟩
  have HN : Hid (n = qs.length) := hn
  clear hR hO hv hr hcap
  rw [← hn] at HC hc1 HV ⊢
  clear hn
  obtain ⟨w1, hw1⟩ : ∃ w1, w1 = w.alloc (.cells #[ptr rb] 39) := ⟨_, rfl⟩
  have HW1 : Hid (w1 = w.alloc (.cells #[ptr rb] 39)) := hw1
  rw [← hw1] at HB1 HC X0
  clear hw1
  rcases idxG_find2 (l := qs) (p := isW who) with ⟨hf, hi⟩ | ⟨i, q, hf, hi, hq⟩
  · rw [hf]
    rw [hi] at HC
    clear hf hi
    dsimp only
    go_enter Tryz.func70, Tryz.ntmps70
    go_upto_region 1 with fail
    rw [← HW1.out]
    go_wp2_with (go_at_call 109; go_must (refine HC.out.mono ?_; rintro r w2 ⟨rfl, hb2⟩))
    go_ret2
    exact ⟨rfl, bnext HB1.out hb2⟩
  · rw [hf]
    rw [hi] at HC
    have hin : i < n := by have := (List.getElem?_eq_some_iff.1 hq).1; have := HN.out; omega
    have HQ : Hid (qs[i]? = some q) := hq
    have HRq : Hid (Rd w q.2 q.1.b) := HR.out q (List.mem_of_getElem? hq)
    clear hf hi hq HR
    dsimp only
    go_enter Tryz.func70, Tryz.ntmps70
    go_upto_region 1 with fail
    rw [← HW1.out]
    go_upto_region 4 with (go_at_call 109; go_must (refine HC.out.mono ?_; rintro r w2 ⟨rfl, hb2⟩))
    have HB2 : Hid (Below w.heap.size w w2) := (show Below _ _ _ from bnext HB1.out hb2)
    have Y0 := (X0.out.below hb2).cell 0 _ rfl
    have Z0 := (X1.out.below HB2.out).cell 0 _ rfl
    have Z2 := (X1.out.below HB2.out).cell 2 _ rfl
    obtain ⟨g, off, ea, hrr⟩ := (HV.out.below HB2.out).at wq_len HQ.out
    subst ea
    have r1 := hrr 1 _ rfl
    obtain ⟨⟨qw, qb⟩, qv⟩ := q
    dsimp only at HRq r1 ⊢
    obtain ⟨qa, qc, hqv⟩ := HRq.out.len
    subst hqv
    have HU : Hid (∀ w', Below w2.heap.size w2 w' → Calls Tryz.prog 111 #[ptr ob, .int .u64 sec, .slice qa qb.length qc] w' fun e w'' => e = .returned (.tuple #[.int .u64 (S.unwrap sec qb).1, .int .i64 (S.unwrap sec qb).2]) ∧ Below w'.heap.size w' w'') := fun w' hb => orc_unwrap (HO.out.below (bnext HB2.out hb)) sec (HRq.out.below (bnext HB2.out hb))
    have hcl : ∀ (z : WIn (fun w' => Below w2.heap.size w2 w')) p v, w2.cell? p = some v → z.w.cell? p = some v := fun z p v hp => (z.ok.cell (World.block_lt_of_cell? w2 _ hp)).trans hp
    have y0 := fun z => hcl z _ _ Y0; have z0 := fun z => hcl z _ _ Z0; have z2 := fun z => hcl z _ _ Z2; have q1 := fun z => hcl z _ _ r1
    have HD : Hid (Below w2.heap.size w2 w2.drew) := (show Below _ _ _ from (Below.refl _ _).drew)
    have ne : Nonempty (WIn (fun w' => Below w2.heap.size w2 w')) := ⟨⟨w2, Below.refl _ _⟩⟩
    generalize qb.length = nb at *
    clear hcl Y0 Z0 Z2 hrr r1 hb2 HC
    refine wp_region_ord (C := fun w' => ∃ z : WIn (fun w' => Below w2.heap.size w2 w'), w' = z.w) [(false, 0), (false, 1), (false, 2), (false, 3), (false, 4), (false, 5), (false, 6), (false, 7), (false, 8), (false, 9), (false, 10), (false, 11), (false, 12), (true, 13), (false, 14), (false, 15), (false, 16), (false, 17)] (by kernel_rfl) (by kernel_rfl) ⟨⟨w2.drew, HD.out⟩, rfl⟩ ?_
    iterate 13 (refine ord_still rfl rfl ?_; go_big_quiet_step (exact rfl); refine wpQuiet_nil ?_)
    refine ord_mem rfl rfl ?_
    go_simp
    refine (HU.out w2.drew HD.out).mono ?_
    rintro r w3 ⟨rfl, hb3⟩
    refine ⟨⟨⟨w3, (show Below _ _ _ from bnext HD.out hb3)⟩, rfl⟩, ?_⟩
    iterate 4 (refine ord_still rfl rfl ?_; go_big_quiet_step (exact rfl); refine wpQuiet_nil ?_)
    refine ord_end ?_
    go_wp2
    go_ret2
    exact ⟨rfl, bnext HB2.out (bnext HD.out hb3)⟩
end
section
set_option linter.unusedVariables false
set_option linter.unusedSimpArgs false
set_option synthInstance.maxSize 20000
set_option maxHeartbeats 2000000
set_option maxRecDepth 20000
open Go.RowKit Go.Maps
theorem getD_map {qs : List VB} {e : Nat} {q : VB} (h : qs[e]? = some q) : (qs.map (·.2)).getD e [] = q.2 := by
  rw [List.getD_eq_getElem?_getD, List.getElem?_map, h]
  rfl
theorem ahead82 {w : World} {o : Nat → Nat} {j rb ob n : Nat} {who sec : Int} {S : St} {ks : List Int} {kv ov : Value} {qs : List VB} (hR : RgAt 114 [ptr ob, .int .i64 who, .int .u64 sec] w o j rb ks kv ov qs) (hO : OrcAt w o ob S) (hS : Ora S n) {e : Nat} (he : e < ks.length) (hl : qs.length = ks.length) (hf : ks.length ≤ 20) :
    Calls Tryz.prog 112 #[ptr rb, .int .i64 e] w fun x w' => x = .returned (.int .u64 (aheadM S (ks.getD e 0) e ((qs.map (·.2)).getD e []))) ∧ Below w.heap.size w w' := by
  obtain ⟨q, hq⟩ : ∃ q, qs[e]? = some q := ⟨_, List.getElem?_eq_getElem (by omega)⟩
  obtain ⟨g, cap, rfl, h1, h2, hc⟩ := hR.kcell he
  obtain ⟨g2, cap2, rfl, h3, h4, hc2⟩ := hR.ocell hq
  have c0 := hR.blk.cell 0 _ rfl; have c3 := hR.blk.cell 3 _ rfl; have c4 := hR.blk.cell 4 _ rfl
  have c5 := hc e he
  have hk := hR.olds q (List.mem_of_getElem? hq)
  rw [getD_map hq]
  obtain ⟨qv, ql⟩ := q
  dsimp only at hk hc2 ⊢
  obtain ⟨qa, qc, hqv⟩ := hk.1.len
  subst hqv
  generalize ks.getD e 0 = x at *
  have HO : Hid (OrcAt w o ob S) := hO
  have HS : Hid (Ora S n) := hS
  have HK : Hid (Rd w (.slice qa ql.length qc) ql) := hk.1
  have HN : Hid (∀ w' : World, Calls Tryz.prog 96 #[.int .u64 (e : Int)] w' fun r w'' => ∃ v', r = .returned v' ∧ Own w'.heap.size 5 w'' v' (form e) ∧ Below w'.heap.size w' w'') := fun w' => bound66 (by omega)
  have HP : Hid (∀ (w' : World) (u : Value), Below w.heap.size w w' → Rd w' u (form e) → Calls Tryz.prog 40 #[ptr ob, .int .u64 x, u, .slice qa ql.length qc] w' fun r w'' => ∃ v', r = .returned (.tuple #[v', .int .i64 (S.open x (form e) ql).2]) ∧ Rd w'' v' (S.open x (form e) ql).1 ∧ Below w'.heap.size w' w'') := fun w' u hb hu => orc_open (HO.out.below hb) HS.out x hu (HK.out.below hb)
  have hcl : ∀ (z : WIn (fun w' => Below w.heap.size w w')) p v, w.cell? p = some v → z.w.cell? p = some v := fun z p v hp => (z.ok.cell (World.block_lt_of_cell? w _ hp)).trans hp
  have y0 := fun z => hcl z _ _ c0; have y3 := fun z => hcl z _ _ c3; have y4 := fun z => hcl z _ _ c4; have y5 := fun z => hcl z _ _ c5; have y6 := fun z => hcl z _ _ hc2
  have HD : Hid (Below w.heap.size w w.drew) := (show Below _ _ _ from (Below.refl _ _).drew)
  have ne : Nonempty (WIn (fun w' => Below w.heap.size w w')) := ⟨⟨w, Below.refl _ _⟩⟩
  unfold aheadM
  generalize S.open x (form e) ql = R at *
  obtain ⟨pl, kd⟩ := R
  dsimp only at HP ⊢
  obtain ⟨A, hA⟩ : ∃ A, A = (if kd = 0 ∧ pl.length = 8 then ofBe8 pl else 0) := ⟨_, rfl⟩
  have HA : Hid (A = (if kd = 0 ∧ pl.length = 8 then ofBe8 pl else 0)) := hA
  rw [← hA]
  clear hA
  generalize ql.length = nq at *
  obtain ⟨m, hm⟩ : ∃ m, m = ks.length := ⟨_, rfl⟩
  have HF : Hid (e < m ∧ m ≤ 20 ∧ qs.length = m) := ⟨by omega, by omega, by omega⟩
  rw [← hm] at he h1 y3 hf
  rw [show qs.length = m by omega] at h3 y4
  have he2 : e < 20 := by omega
  clear hcl c0 c3 c4 c5 hc hc2 hR hk hq hS hO hm hl
  go_enter Tryz.func112, Tryz.ntmps112
  go_upto_region 1 with fail
  refine wp_region_ord (C := fun w' => ∃ z : WIn (fun w' => Below w.heap.size w w'), w' = z.w) [(false, 0), (false, 1), (false, 2), (false, 3), (false, 4), (false, 5), (false, 6), (false, 7), (false, 8), (false, 9), (false, 10), (false, 11), (false, 12), (false, 14), (false, 15), (false, 16), (false, 17), (false, 18), (false, 19), (false, 20), (true, 13), (true, 21), (false, 22), (false, 23), (false, 24), (false, 25), (false, 26)] (by kernel_rfl) (by kernel_rfl) ⟨⟨w.drew, HD.out⟩, rfl⟩ ?_
  iterate 20 (refine ord_still rfl rfl ?_; go_big_quiet_step (exact rfl); refine wpQuiet_nil ?_)
  refine ord_mem rfl rfl ?_
  go_simp
  refine (HN.out w.drew).mono ?_
  rintro r w2 ⟨v2, rfl, ho2, hb2⟩
  obtain ⟨a2, c2, hv2⟩ := ho2.rd.len
  subst hv2
  have HB2 : Hid (Below w.heap.size w w2) := (show Below _ _ _ from bnext HD.out hb2)
  refine ⟨⟨⟨w2, HB2.out⟩, rfl⟩, ?_⟩
  refine ord_mem rfl rfl ?_
  go_simp
  refine (HP.out w2 _ HB2.out ho2.rd).mono ?_
  rintro r w3 ⟨v3, rfl, hr3, hb3⟩
  obtain ⟨a3, c3, hv3⟩ := hr3.len
  subst hv3
  have HB3 : Hid (Below w.heap.size w w3) := (show Below _ _ _ from bnext HB2.out hb3)
  have HR3 : Hid (Rd w3 (.slice a3 pl.length c3) pl) := hr3
  refine ⟨⟨⟨w3, HB3.out⟩, rfl⟩, ?_⟩
  iterate 5 (refine ord_still rfl rfl ?_; go_big_quiet_step (exact rfl); refine wpQuiet_nil ?_)
  refine ord_end ?_
  clear hr3 hb3 ho2 hb2 y0 y3 y4 y5 y6 HP HN
  by_cases hkd : kd = 0
  · subst hkd
    by_cases h8 : pl.length = 8
    · have HE : Hid (A = ofBe8 pl) := (show _ = _ by rw [HA.out, if_pos ⟨rfl, h8⟩])
      have HK8 : Hid (Calls Tryz.prog 131 #[.slice a3 8 c3] w3 fun e w' => e = .returned (.int .u64 (ofBe8 pl)) ∧ w' = w3) := by
        have := keyOf107 HR3.out h8
        rw [h8] at this
        exact this
      rw [h8]
      clear h8 HA
      go_wp2_with (go_at_call 131; go_must (refine HK8.out.mono ?_; rintro r w4 ⟨rfl, rfl⟩))
      go_ret
      exact ⟨by first | (rw [HE.out]; done) | (rw [HE.out]; rfl), HB3.out⟩
    · have HE : Hid (A = 0) := (show _ = _ by rw [HA.out, if_neg (fun h => h8 h.2)])
      have h9 : ((pl.length : Int) != 8) = true := by simp; omega
      generalize pl.length = np at *
      clear h8 HR3 HA
      go_wp2
      go_ret
      exact ⟨by first | (rw [HE.out]; done) | (rw [HE.out]; rfl), HB3.out⟩
  · have HE : Hid (A = 0) := (show _ = _ by rw [HA.out, if_neg (fun h => hkd h.1)])
    have h9 : (kd != 0) = true := by simpa using hkd
    clear hkd HR3 HA
    go_wp2
    go_ret
    exact ⟨by first | (rw [HE.out]; done) | (rw [HE.out]; rfl), HB3.out⟩
end
section
set_option linter.unusedVariables false
set_option linter.unusedSimpArgs false
set_option synthInstance.maxSize 20000
set_option maxHeartbeats 2000000
set_option maxRecDepth 20000
open Go.RowKit Go.Maps
theorem goBack49 {w : World} {o : Nat → Nat} {j rb ob N : Nat} {who sec : Int} {S : St} {ks : List Int} {kv ov : Value} {qs : List VB} (hR : RgAt 114 [ptr ob, .int .i64 who, .int .u64 sec] w o j rb ks kv ov qs) (hO : OrcAt w o ob S) (hS : Ora S N) (hp : 0 < ks.length) (hl : qs.length = ks.length) (hf : ks.length ≤ 20) (hj : j ≠ 0) (hj1 : j ≠ 1) :
    Calls Tryz.prog 72 #[ptr rb] w fun x w' => x = .returned (.tuple #[]) ∧ ∃ o' kv' ov' qs', RgAt 114 [ptr ob, .int .i64 who, .int .u64 sec] w' o' j rb (backF S (qs.map (·.2)) (ks.length - 1) ks) kv' ov' qs' ∧ qs'.map (·.2) = struck ks (qs.map (·.2)) ∧ Mv [j] w o w' o' := by
  obtain ⟨g, cap, rfl, h1, h2, hc⟩ := hR.kcell hp
  have c3 := hR.blk.cell 3 _ rfl
  obtain ⟨m, hm⟩ : ∃ m, m + 1 = ks.length := ⟨ks.length - 1, by omega⟩
  have c5 := hc m (by omega)
  have hj0 : Hid (j ≠ 0) := hj
  have hj1 : Hid (j ≠ 1) := hj1
  have HL : Hid (qs.length = m + 1 ∧ m + 1 ≤ 20) := ⟨by omega, by omega⟩
  have HR : Hid (RgAt 114 [ptr ob, .int .i64 who, .int .u64 sec] w o j rb ks (.slice (some ⟨g, 0, none⟩) ks.length cap) ov qs) := hR
  have HO : Hid (OrcAt w o ob S) := hO
  have HS : Hid (Ora S N) := hS
  obtain ⟨ST, hst⟩ : ∃ ST, ST = struck ks (qs.map (·.2)) := ⟨_, rfl⟩
  obtain ⟨TG, htg⟩ : ∃ TG, TG = backF S (qs.map (·.2)) (ks.length - 1) ks := ⟨_, rfl⟩
  have HTG : Hid (backF S (qs.map (·.2)) m ks = TG) := (show _ = _ by rw [htg]; congr 1; omega)
  have HST0 : Hid (ST = struck ks (qs.map (·.2))) := hst
  have HKL : Hid (ks.length = m + 1) := hm.symm
  rw [← hst, ← htg]
  rw [← hm] at h1 c3
  clear hR hO hS hc hst htg hl hf hp
  by_cases hx : ks.getD m 0 = 0
  · have HT2 : Hid (TG = ks) := (show _ = _ by rw [← HTG.out]; exact backF_zero hx)
    have HS2 : Hid (ST = qs.map (·.2)) := (show _ = _ by rw [HST0.out]; unfold struck; rw [← hm, Nat.add_sub_cancel, if_pos hx])
    rw [hx] at c5
    clear hx hm
    go_enter Tryz.func72, Tryz.ntmps72
    go_wp2
    refine bodyPost_ret (v := .tuple #[]) (results_none rfl _ _ _) rfl ?_
    exact ⟨rfl, o, _, _, qs, by rw [HT2.out]; exact HR.out, HS2.out.symm, Mv.refl _ _ _⟩
  · have HST : Hid (ST = List.replicate qs.length []) := (show _ = _ by rw [HST0.out]; unfold struck; rw [← hm, Nat.add_sub_cancel, if_neg hx]; simp)
    have HX : Hid (¬ ks.getD m 0 = 0) := hx
    have hx2 : (ks.getD m 0 == 0) = false := by simpa using hx
    obtain ⟨n, hn⟩ : ∃ n, n = m + 1 := ⟨_, rfl⟩
    have HN : Hid (n = m + 1) := hn
    have HR2 : Hid (RgAt 114 [ptr ob, .int .i64 who, .int .u64 sec] w o j rb ks (.slice (some ⟨g, 0, none⟩) n cap) ov qs) := (by have := HR.out; rw [← hm, ← hn] at this; exact this)
    have hmn : m < n := by omega
    have hn20 : n ≤ 20 := by have := HL.out; omega
    have hm2 : ((m + 1 : Nat) : Int) = (n : Int) := by omega
    have hm3 : (n : Int) - 1 = (m : Int) := by omega
    rw [← hn] at c3 h1
    clear hx hm hn HR HST0
    generalize ks.getD m 0 = x at c5 hx2
    go_enter Tryz.func72, Tryz.ntmps72
    go_wp2
    go_loopw [2] (fun i wr => ∃ (k : Nat), i = .int .i64 k ∧ k ≤ m ∧ ∃ (ks1 : List Int) (o1 : Nat → Nat), Hid (RgAt 114 [ptr ob, .int .i64 who, .int .u64 sec] wr o1 j rb ks1 (.slice (some ⟨g, 0, none⟩) n cap) ov qs) ∧ Hid (Mv [j] w o wr o1) ∧ Hid (backF S (qs.map (·.2)) k ks1 = TG) ∧ Hid (ks1.length = m + 1)) (fun i _ => (intOf i).toNat)
    case atStart => exact ⟨m, rfl, Nat.le_refl _, ks, o, HR2.out, Mv.refl _ _ _, HTG.out, HKL.out⟩
    case round =>
      obtain ⟨k, rfl, hk, ks1, o1, HA, HM, HT, HK1⟩ := hrel
      have b3 := HA.out.blk.cell 3 _ rfl
      cases k with
      | zero =>
        have HE : TG = ks1 := HT.out.symm
        clear HT
        obtain ⟨g5, cap5, e5, _, _⟩ := own_some HA.out.orow (by have := HL.out; omega)
        have HO5 := HA.out.orow
        rw [e5] at HO5
        have c4 := HA.out.blk.cell 4 _ rfl
        rw [e5] at c4
        have HA5 : Hid (RgAt 114 [ptr ob, .int .i64 who, .int .u64 sec] wr o1 j rb ks1 (.slice (some ⟨g, 0, none⟩) n cap) (.slice (some ⟨g5, 0, none⟩) qs.length cap5) qs) := (by have := HA.out; rw [e5] at this; exact this)
        have HO6 : Hid (wr.ownsRow 0 25 1 (.slice (some ⟨g5, 0, none⟩) qs.length cap5) qs.length (flat lc qs)) := HO5
        have hlq : 0 < qs.length := by have := HL.out; omega
        generalize hnq : qs.length = nq at *
        have HNQ : Hid (qs.length = nq) := hnq
        clear hnq HO5
        have hclr := run_clear_olds HO6.out HNQ.out hlq 0
        go_wp2
        go_end0
        have hs := HA5.out
        rw [← HNQ.out] at hs
        obtain ⟨s1, s2⟩ := hs.strike hj0.out
        rw [HNQ.out] at s1 s2
        refine ⟨rfl, _, _, _, _, by rw [HE]; exact s1, ?_, HM.out.trans s2⟩
        rw [HST.out]
        simp [zq, HNQ.out]
      | succ k =>
        obtain ⟨gg, cc, ee, _, _, hc1⟩ := HA.out.kcell (i := 0) (by rw [HK1.out]; omega)
        have e3 : g = gg ∧ n = ks1.length ∧ cap = cc := by simpa using ee
        rw [← e3.1] at hc1
        clear ee e3
        have b5 := hc1 (k + 1) (by rw [HK1.out]; omega)
        have b6 := hc1 k (by rw [HK1.out]; omega)
        have hkk : ((k + 1 : Nat) : Int) - 1 = (k : Int) := by omega
        clear hc1
        by_cases ha : ks1.getD (k + 1) 0 = 0
        · have HE : TG = ks1 := by rw [← HT.out]; exact backF_no (fun q => q.1 ha)
          rw [ha] at b5
          clear HT ha
          obtain ⟨g5, cap5, e5, _, _⟩ := own_some HA.out.orow (by have := HL.out; omega)
          have HO5 := HA.out.orow
          rw [e5] at HO5
          have c4 := HA.out.blk.cell 4 _ rfl
          rw [e5] at c4
          have HA5 : Hid (RgAt 114 [ptr ob, .int .i64 who, .int .u64 sec] wr o1 j rb ks1 (.slice (some ⟨g, 0, none⟩) n cap) (.slice (some ⟨g5, 0, none⟩) qs.length cap5) qs) := (by have := HA.out; rw [e5] at this; exact this)
          have HO6 : Hid (wr.ownsRow 0 25 1 (.slice (some ⟨g5, 0, none⟩) qs.length cap5) qs.length (flat lc qs)) := HO5
          have hlq : 0 < qs.length := by have := HL.out; omega
          generalize hnq : qs.length = nq at *
          have HNQ : Hid (qs.length = nq) := hnq
          clear hnq HO5
          have hclr := run_clear_olds HO6.out HNQ.out hlq 0
          go_wp2
          go_end0
          have hs := HA5.out
          rw [← HNQ.out] at hs
          obtain ⟨s1, s2⟩ := hs.strike hj0.out
          rw [HNQ.out] at s1 s2
          refine ⟨rfl, _, _, _, _, by rw [HE]; exact s1, ?_, HM.out.trans s2⟩
          rw [HST.out]
          simp [zq, HNQ.out]
        · by_cases hb : ks1.getD k 0 = 0
          · have HG : Hid (backF S (qs.map (·.2)) k (ks1.set k (aheadM S (ks1.getD (k + 1) 0) (k + 1) ((qs.map (·.2)).getD (k + 1) []))) = TG) := (show _ = _ by rw [← HT.out]; exact (backF_go ha hb).symm)
            rw [hb] at b6
            have hka : (ks1.getD (k + 1) 0 == 0) = false := by simpa using ha
            have hkb : (ks1.getD (k + 1) 0 != 0) = true := by simpa using ha
            have HAh : Hid (Calls Tryz.prog 112 #[ptr rb, .int .i64 ((k + 1 : Nat) : Int)] wr.drew fun x w' => x = .returned (.int .u64 (aheadM S (ks1.getD (k + 1) 0) (k + 1) ((qs.map (·.2)).getD (k + 1) []))) ∧ Below wr.drew.heap.size wr.drew w') :=
              (show Calls _ _ _ _ _ from ahead82 (w := wr.drew) (o := newTo o1 wr 0) (HA.out.below ((Below.refl _ _).drew)) ((HO.out.mv HM.out (by simp; exact fun e => hj1.out e.symm)).below ((Below.refl _ _).drew)) HS.out (by rw [HK1.out]; omega) (by rw [HK1.out]; exact HL.out.1) (by rw [HK1.out]; exact HL.out.2))
            have y3 : ∀ z : WIn (fun w' => w'.cell? ⟨rb, 3, none⟩ = some (.slice (some ⟨g, 0, none⟩) n cap)), z.w.cell? ⟨rb, 3, none⟩ = some (.slice (some ⟨g, 0, none⟩) n cap) := fun z => z.ok
            have ne : Nonempty (WIn (fun w' => w'.cell? ⟨rb, 3, none⟩ = some (.slice (some ⟨g, 0, none⟩) n cap))) := ⟨⟨wr, b3⟩⟩
            have HD : Hid (Below wr.heap.size wr wr.drew) := (show Below _ _ _ from (Below.refl _ _).drew)
            generalize aheadM S (ks1.getD (k + 1) 0) (k + 1) ((qs.map (·.2)).getD (k + 1) []) = A at *
            generalize ks1.getD (k + 1) 0 = xa at *
            clear ha hb HT
            go_upto_region 4 with fail
            refine wp_region_ord (C := fun w' => ∃ z : WIn (fun w' => w'.cell? ⟨rb, 3, none⟩ = some (.slice (some ⟨g, 0, none⟩) n cap)), w' = z.w) [(false, 0), (false, 1), (false, 2), (false, 3), (false, 4), (false, 5), (false, 6), (false, 7), (true, 8), (false, 9), (true, 10)] (by kernel_rfl) (by kernel_rfl) ⟨⟨wr.drew, b3⟩, rfl⟩ ?_
            iterate 8 (refine ord_still rfl rfl ?_; go_big_quiet_step (exact rfl); refine wpQuiet_nil ?_)
            refine ord_mem rfl rfl ?_
            go_simp
            refine HAh.out.mono ?_
            rintro r w2 ⟨rfl, hb2⟩
            have HB2 : Hid (Below wr.heap.size wr w2) := (show Below _ _ _ from bnext HD.out hb2)
            have HA2 : Hid (RgAt 114 [ptr ob, .int .i64 who, .int .u64 sec] w2 (newTo o1 wr 0) j rb ks1 (.slice (some ⟨g, 0, none⟩) n cap) ov qs) := (show RgAt _ _ _ _ _ _ _ _ _ _ from HA.out.below HB2.out)
            have d3 := HA2.out.blk.cell 3 _ rfl
            have HK2 : n = ks1.length := by have := HK1.out; have := HN.out; omega
            have d6 : w2.cell? ⟨g, k, none⟩ = some (.int .u64 0) := (HB2.out.cell (World.block_lt_of_cell? wr _ b6)).trans b6
            have hk3 := HA2.out.krow
            rw [← HK2] at hk3
            have d7 := hk3.frozenAt k
            clear hk3
            refine ⟨⟨⟨w2, d3⟩, rfl⟩, ?_⟩
            iterate 1 (refine ord_still rfl rfl ?_; go_big_quiet_step (exact rfl); refine wpQuiet_nil ?_)
            refine ord_mem rfl rfl ?_
            have hs := HA2.out
            rw [HK2] at hs
            obtain ⟨s1, s2⟩ := hs.setKey hj0.out (i := k) (by omega) A
            rw [List.length_set, ← HK2] at s1
            have HS1 : Hid (RgAt 114 [ptr ob, .int .i64 who, .int .u64 sec] (w2.setCell ⟨g, k, none⟩ (.int .u64 A)) (newTo (newTo o1 wr 0) w2 0) j rb (ks1.set k A) (.slice (some ⟨g, 0, none⟩) n cap) ov qs) := s1
            have HS2 : Hid (Mv [j] w o (w2.setCell ⟨g, k, none⟩ (.int .u64 A)) (newTo (newTo o1 wr 0) w2 0)) := (show Mv _ _ _ _ _ from (HM.out.trans (Mv.of_below 0 HB2.out)).trans s2)
            clear s1 s2 hs HK2
            go_simp
            refine ⟨⟨⟨_, HS1.out.blk.cell 3 _ rfl⟩, rfl⟩, ?_⟩
            refine ord_end ?_
            go_wp2
            go_roundw
            case rel => exact ⟨k, by go_num, by omega, ks1.set k A, _, HS1.out, HS2.out, HG.out, (show _ = _ by rw [List.length_set]; exact HK1.out)⟩
            case measure => simp [intOf]
          · have HE : TG = ks1 := by rw [← HT.out]; exact backF_no (fun q => hb q.2)
            have hka : (ks1.getD (k + 1) 0 == 0) = false := by simpa using ha
            have hkb : (ks1.getD (k + 1) 0 != 0) = true := by simpa using ha
            have hkc : (ks1.getD k 0 == 0) = false := by simpa using hb
            generalize ks1.getD (k + 1) 0 = xa at *
            generalize ks1.getD k 0 = xb at *
            clear HT ha hb
            obtain ⟨g5, cap5, e5, _, _⟩ := own_some HA.out.orow (by have := HL.out; omega)
            have HO5 := HA.out.orow
            rw [e5] at HO5
            have c4 := HA.out.blk.cell 4 _ rfl
            rw [e5] at c4
            have HA5 : Hid (RgAt 114 [ptr ob, .int .i64 who, .int .u64 sec] wr o1 j rb ks1 (.slice (some ⟨g, 0, none⟩) n cap) (.slice (some ⟨g5, 0, none⟩) qs.length cap5) qs) := (by have := HA.out; rw [e5] at this; exact this)
            have HO6 : Hid (wr.ownsRow 0 25 1 (.slice (some ⟨g5, 0, none⟩) qs.length cap5) qs.length (flat lc qs)) := HO5
            have hlq : 0 < qs.length := by have := HL.out; omega
            generalize hnq : qs.length = nq at *
            have HNQ : Hid (qs.length = nq) := hnq
            clear hnq HO5
            have hclr := run_clear_olds HO6.out HNQ.out hlq 0
            go_wp2
            go_end0
            have hs := HA5.out
            rw [← HNQ.out] at hs
            obtain ⟨s1, s2⟩ := hs.strike hj0.out
            rw [HNQ.out] at s1 s2
            refine ⟨rfl, _, _, _, _, by rw [HE]; exact s1, ?_, HM.out.trans s2⟩
            rw [HST.out]
            simp [zq, HNQ.out]
end
end Go.Proofs.YtjbpfhnagiacmaaGreat
