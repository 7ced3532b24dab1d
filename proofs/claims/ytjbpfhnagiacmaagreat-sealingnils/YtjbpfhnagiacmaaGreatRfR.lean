/-
  What Apply comes to, by the document's own steps.
  Right of the document's answer.
-/
import Derived.Test.YtjbpfhnagiacmaaGreatRfP
import Derived.Test.YtjbpfhnagiacmaaGreatPurA
import Derived.Test.YtjbpfhnagiacmaaGreatRgt
namespace Go.Proofs.YtjbpfhnagiacmaaGreat
section
set_option linter.unusedVariables false
set_option linter.unusedSimpArgs false
set_option synthInstance.maxSize 20000
set_option maxHeartbeats 2000000
set_option maxRecDepth 20000
open Go.RowKit Go.Maps
theorem srt_ext : ∀ {a b : List Int}, a.Pairwise (fun x y => x < y) → b.Pairwise (fun x y => x < y) → (∀ x, x ∈ a ↔ x ∈ b) → a = b
  | [], [], _, _, _ => rfl
  | [], y :: b, _, _, h => by have := (h y).2 (by simp); simp at this
  | x :: a, [], _, _, h => by have := (h x).1 (by simp); simp at this
  | x :: a, y :: b, ha, hb, h => by
    have h1 := List.pairwise_cons.1 ha
    have h2 := List.pairwise_cons.1 hb
    have hxy : x = y := by
      rcases List.mem_cons.1 ((h x).1 (by simp)) with e | e
      · exact e
      · rcases List.mem_cons.1 ((h y).2 (by simp)) with e' | e'
        · exact e'.symm
        · have := h2.1 x e
          have := h1.1 y e'
          omega
    subst hxy
    rw [srt_ext h1.2 h2.2 (fun z => by
      constructor
      · intro hz
        rcases List.mem_cons.1 ((h z).1 (by simp [hz])) with e | e
        · have := h1.1 z hz; omega
        · exact e
      · intro hz
        rcases List.mem_cons.1 ((h z).2 (by simp [hz])) with e | e
        · have := h2.1 z hz; omega
        · exact e)]
theorem wsF_srt : ∀ {ws : List Wp} {p : Option Int}, wsF p ws = true → (ws.map (·.w)).Pairwise (fun x y => x < y) ∧ ∀ x ∈ ws, behB p x.w = true
  | [], p, _ => by simp
  | x :: r, p, h => by
    unfold wsF at h
    rw [Bool.and_eq_true] at h
    obtain ⟨h1, h2⟩ := h
    obtain ⟨h3, h4⟩ := wsF_srt h2
    unfold stepB at h1
    rw [Bool.and_eq_true] at h1
    have h5 : ∀ y ∈ r, x.w < y.w := fun y hy => by have := h4 y hy; unfold behB at this; simpa using this
    refine ⟨?_, fun y hy => ?_⟩
    · rw [List.map_cons, List.pairwise_cons]
      refine ⟨fun z hz => ?_, h3⟩
      obtain ⟨y, hy, rfl⟩ := List.mem_map.1 hz
      exact h5 y hy
    · rcases List.mem_cons.1 hy with rfl | hy
      · exact h1.2
      · cases p with
        | none => rfl
        | some v =>
          have h6 := h1.2
          have h7 := h5 y hy
          unfold behB at h6 ⊢
          simp at h6 ⊢
          omega
theorem wrap_eq {ws : List Wp} {now : List Mb} (hw : wsF none ws = true) (hn : Srt now) : wrapM ws now = decide (now.map (·.w) = ws.map (·.w)) := by
  have h1 := (wsF_srt hw).1
  have h2 : (now.map (·.w)).Pairwise (fun x y => x < y) := List.pairwise_map.2 hn
  unfold wrapM
  rw [← Bool.not_or, Bool.eq_iff_iff]
  simp only [Bool.not_eq_true', Bool.or_eq_false_iff, List.any_eq_false, decide_eq_true_eq, Bool.not_eq_true, Bool.not_eq_false']
  constructor
  · rintro ⟨h3, h4⟩
    refine srt_ext h2 h1 (fun x => ?_)
    constructor
    · intro hx
      obtain ⟨m, hm, rfl⟩ := List.mem_map.1 hx
      have := h4 m hm
      obtain ⟨q, hq, e⟩ := List.any_eq_true.1 (by simpa using this)
      unfold sameW at e
      exact List.mem_map.2 ⟨q, hq, by simpa using e⟩
    · intro hx
      obtain ⟨q, hq, rfl⟩ := List.mem_map.1 hx
      have := h3 q hq
      obtain ⟨m, hm, e⟩ := List.any_eq_true.1 (by simpa using this)
      exact List.mem_map.2 ⟨m, hm, atW_iff.1 e⟩
  · intro h
    constructor
    · intro q hq
      have : q.w ∈ now.map (·.w) := by rw [h]; exact List.mem_map.2 ⟨q, hq, rfl⟩
      obtain ⟨m, hm, e⟩ := List.mem_map.1 this
      simp
      exact ⟨m, hm, atW_iff.2 e⟩
    · intro m hm
      have : m.w ∈ ws.map (·.w) := by rw [← h]; exact List.mem_map.2 ⟨m, hm, rfl⟩
      obtain ⟨q, hq, e⟩ := List.mem_map.1 this
      simp
      exact ⟨q, hq, by unfold sameW; simpa using e⟩
theorem setW_const {l : List Mb} {who : Int} {m : Mb} {g : Mb → Mb} (h : findM l who = some m) : setW who g l = setW who (fun _ => g m) l := by
  induction l with
  | nil => rfl
  | cons x r ih =>
    rw [findM_cons] at h
    rw [setW, setW]
    by_cases hx : x.w = who
    · rw [if_pos hx] at h
      cases h
      rw [if_pos hx, if_pos hx]
    · rw [if_neg hx] at h
      rw [if_neg hx, if_neg hx, ih h]
theorem now_srt {l : List Mb} (h : Srt l) : Srt (nowM l) := h.sublist List.filter_sublist
theorem apply_bad {S : Sm} {c : Cg} (h : rightB c = false) : applyM S c = (zsm, 1) := by unfold applyM; rw [h]; rfl
theorem apply_no {S : Sm} {c : Cg} (h : rightB c = true) (ht : turnK S c ≠ 0) : applyM S c = (zsm, turnK S c) := by unfold applyM; rw [if_pos h, if_neg ht]
theorem apply_yes {S : Sm} {c : Cg} (h : rightB c = true) (ht : turnK S c = 0) : applyM S c = (turnS S c, 0) := by unfold applyM; rw [if_pos h, if_pos ht]
theorem apply_1a {S : Sm} {c : Cg} (h : rightB c = true) (hk : c.k = 1) {m : Mb} (hf : findM S.l c.w = some m) : applyM S c = (zsm, 13) := by
  have : turnK S c = 13 := by unfold turnK invK; rw [if_pos hk, hf]; rfl
  rw [apply_no h (by rw [this]; simp), this]
theorem apply_1b {S : Sm} {c : Cg} (h : rightB c = true) (hk : c.k = 1) (hf : findM S.l c.w = none) (hs : MOk S) : applyM S c = (⟨putM S.l (newM S.e c), S.e⟩, 0) := by
  have : turnK S c = 0 := by unfold turnK invK; rw [if_pos hk, hf]; rfl
  rw [apply_yes h this]
  unfold turnS invL
  rw [if_pos hk, hf, putM_eq hs.srt]
  have : findM S.l (newM S.e c).w = none := hf
  rw [this]
  rfl
theorem apply_2a {S : Sm} {c : Cg} (h : rightB c = true) (hk : c.k = 2) (hf : findM S.l c.w = none) : applyM S c = (zsm, 20) := by
  have : turnK S c = 20 := by unfold turnK revK; unfold findM at hf; rw [if_neg (by omega), if_pos hk, hf]
  rw [apply_no h (by rw [this]; simp), this]
theorem apply_2b {S : Sm} {c : Cg} (h : rightB c = true) (hk : c.k = 2) {m : Mb} (hf : findM S.l c.w = some m) (ht : m.t ≠ -1) : applyM S c = (zsm, 10) := by
  have ho : on m = false := by unfold on; simp [ht]
  have : turnK S c = 10 := by unfold turnK revK; unfold findM at hf; rw [if_neg (by omega), if_pos hk, hf]; simp [ho]
  rw [apply_no h (by rw [this]; simp), this]
theorem apply_2c {S : Sm} {c : Cg} (h : rightB c = true) (hk : c.k = 2) {m : Mb} (hf : findM S.l c.w = some m) (ht : m.t = -1) (hs : MOk S) : applyM S c = (⟨putM S.l (goneM m S.e c.l), S.e⟩, 0) := by
  have ho : on m = true := by unfold on; simp [ht]
  have hf' := hf
  have : turnK S c = 0 := by unfold turnK revK; unfold findM at hf; rw [if_neg (by omega), if_pos hk, hf]; simp [ho]
  rw [apply_yes h this]
  unfold turnS
  rw [if_neg (by omega), if_pos hk, revL_on hf' ho, putM_eq hs.srt]
  have e1 : (goneM m S.e c.l).w = c.w := (findM_some hf').2
  rw [e1, hf', setW_const hf']
  rfl
theorem apply_3 {S : Sm} {c : Cg} (h : rightB c = true) (hk : c.k = 3) (hs : MOk S) : applyM S c = if 19 ≤ S.e then (zsm, 2) else if (nowM S.l).map (·.w) = c.ws.map (·.w) ∧ (c.o.length = 0 ↔ S.e = -1) then (⟨S.l, S.e + 1⟩, 0) else (zsm, 10) := by
  have hw : wsF none c.ws = true := by
    have h1 := h
    unfold rightB wsB at h1
    rw [if_neg (by omega), if_neg (by omega), if_pos hk] at h1
    simp only [Bool.and_eq_true] at h1
    exact h1.1.2.1
  have hb : turnK S c = begK S.l S.e c := by unfold turnK; rw [if_neg (by omega), if_neg (by omega)]
  have hbk : begK S.l S.e c = if 19 ≤ S.e then 2 else if (nowM S.l).map (·.w) = c.ws.map (·.w) ∧ (c.o.length = 0 ↔ S.e = -1) then 0 else 10 := by
    unfold begK
    rw [wrap_eq hw (now_srt hs.srt)]
    by_cases h19 : 19 ≤ S.e
    · rw [if_pos h19, if_pos h19]
    · rw [if_neg h19, if_neg h19]
      by_cases h1 : (nowM S.l).map (·.w) = c.ws.map (·.w) <;> by_cases h2 : c.o.length = 0 <;> by_cases h3 : S.e = -1 <;> simp [h1, h2, h3] <;> omega
  by_cases h19 : 19 ≤ S.e
  · rw [if_pos h19] at hbk ⊢
    rw [apply_no h (by rw [hb, hbk]; simp), hb, hbk]
  · rw [if_neg h19] at hbk ⊢
    by_cases h1 : (nowM S.l).map (·.w) = c.ws.map (·.w) ∧ (c.o.length = 0 ↔ S.e = -1)
    · rw [if_pos h1] at hbk ⊢
      rw [apply_yes h (by rw [hb, hbk])]
      unfold turnS
      rw [if_neg (by omega), if_neg (by omega), if_pos hbk]
    · rw [if_neg h1] at hbk ⊢
      rw [apply_no h (by rw [hb, hbk]; simp), hb, hbk]
end
section
set_option linter.unusedVariables false
set_option linter.unusedSimpArgs false
set_option synthInstance.maxSize 20000
set_option maxHeartbeats 2000000
set_option maxRecDepth 20000
open Go.RowKit Go.Maps
set_option maxHeartbeats 16000000 in
theorem rright36 {w : World} {c : Cg} {a b : Value} {qs : List Wq} (h : CgAt w c a b qs) : Calls Tryz.prog 67 #[cv c a b] w fun r w' => r = .returned (.bool (rightB c)) ∧ Below w.heap.size w w' := by
  obtain ⟨w1, hw1⟩ : ∃ w1, w1 = w.alloc (.cells (cc c a b).toArray 80) := ⟨_, rfl⟩
  have hb1 : Below w.heap.size w w1 := by rw [hw1]; exact balloc (Below.refl _ _) _
  have X1 : Hid (Blk w1 w.heap.size 80 (cc c a b)) := by rw [hw1]; exact blk_new w _ 80
  have H58 : Hid (∀ x w', Calls Tryz.prog 108 #[.int .i64 x] w' fun r w'' => r = .returned (.bool (whoB x)) ∧ w'' = w') := fun x w' => rwho58 x w'
  have HB1 : Hid (Below w.heap.size w w1) := hb1
  obtain ⟨aa, ca, rfl⟩ := h.row.len
  obtain ⟨ab, cb, rfl⟩ := h.old.len
  have hcap := h.row.caps
  have hc1 : qs.length ≤ ca := hcap.2.1
  have hc2 : ca ≤ 9223372036854775807 := hcap.2.2
  have HV : Hid (∀ w', Below w1.heap.size w1 w' → RowF wq w' (.slice aa qs.length ca) qs) := fun w' hb => (h.row.below hb1).below hb
  have HRd : Hid (∀ q ∈ qs, Rd w q.2 q.1.b) := h.rd
  have HWs : Hid (qs.map (·.1) = c.ws) := h.ws
  have HLn : Hid (qs.length = c.ws.length) := h.len
  obtain ⟨xk, xw, xp, xl, xws, xo⟩ := c
  unfold cv cc at *
  dsimp only at *
  have HW1 : Hid (w1 = w.alloc (.cells #[.int .i64 xk, .int .i64 xw, .int .u64 xp, .int .i64 xl, .slice aa qs.length ca, .slice ab xo.length cb] 80)) := hw1
  obtain ⟨rb, hrb⟩ : ∃ rb, rb = rightB ⟨xk, xw, xp, xl, xws, xo⟩ := ⟨_, rfl⟩
  have HRB : Hid (rb = rightB ⟨xk, xw, xp, xl, xws, xo⟩) := hrb
  rw [← hrb]
  obtain ⟨n, hn⟩ : ∃ n, n = xo.length := ⟨_, rfl⟩
  obtain ⟨m, hm⟩ : ∃ m, m = qs.length := ⟨_, rfl⟩
  have HN : Hid (n = xo.length) := hn
  have HM : Hid (m = qs.length) := hm
  rw [← hn] at X1 HW1 ⊢
  rw [← hm] at X1 HW1 HV HLn hc1 ⊢
  clear h hw1 hb1 hcap hrb hn hm
  have z0 := X1.out.cell 0 _ rfl; have z1 := X1.out.cell 1 _ rfl; have z2 := X1.out.cell 2 _ rfl; have z3 := X1.out.cell 3 _ rfl; have z4 := X1.out.cell 4 _ rfl; have z5 := X1.out.cell 5 _ rfl
  by_cases hno : n = 0 ∨ (xk = 3 ∧ n = 24)
  · by_cases k1 : xk = 1
    · have hn0 : n = 0 := by omega
      have HR : Hid (rb = (whoB xw && decide (xp ≠ 0) && decide (xl = 0) && decide (m = 0))) := (show _ = _ by
        rw [HRB.out]; unfold rightB keyB; rw [if_pos k1]
        have h1 := HN.out; have h2 := HLn.out
        dsimp only
        rw [← h1, ← h2, hn0]
        simp)
      clear HRB hno
      subst k1 hn0
      have HK : Hid (∀ w', Calls Tryz.prog 108 #[.int .i64 xw] w' fun r w'' => r = .returned (.bool (whoB xw)) ∧ w'' = w') := fun w' => H58.out xw w'
      generalize whoB xw = wb at *
      have hp : xp = 0 ∨ (xp != 0) = true := by by_cases e : xp = 0 <;> simp [e]
      have hl : xl = 0 ∨ (xl == 0) = false := by by_cases e : xl = 0 <;> simp [e]
      have hm0 : m = 0 ∨ ((m : Int) == 0) = false := by by_cases e : m = 0 <;> simp [e]
      go_enter Tryz.func67, Tryz.ntmps67
      go_upto_region 1 with fail
      rw [← HW1.out]
      go_upto_region 5 with fail
      cases wb <;> rcases hp with rfl | hp <;> rcases hl with rfl | hl <;> rcases hm0 with rfl | hm0
      all_goals
        go_wp2_with (go_at_call 108; go_must (refine (HK.out _).mono ?_; rintro r w2 ⟨rfl, rfl⟩))
        go_ret
        refine ⟨?_, HB1.out⟩
        rw [HR.out]
        first | rfl | (refine ret_bool ?_; simp_all)
    · by_cases k2 : xk = 2
      · have hn0 : n = 0 := by omega
        have HR : Hid (rb = (whoB xw && decide (xw ≠ 0) && decide (xp = 0) && decide (0 ≤ xl ∧ xl ≤ 200) && decide (m = 0))) := (show _ = _ by
          rw [HRB.out]; unfold rightB keyB; rw [if_neg k1, if_pos k2]
          have h1 := HN.out; have h2 := HLn.out
          dsimp only
          rw [← h1, ← h2, hn0]
          simp)
        clear HRB hno k1
        subst k2 hn0
        have HK : Hid (∀ w', Calls Tryz.prog 108 #[.int .i64 xw] w' fun r w'' => r = .returned (.bool (whoB xw)) ∧ w'' = w') := fun w' => H58.out xw w'
        generalize whoB xw = wb at *
        have hw0 : xw = 0 ∨ (xw != 0) = true := by by_cases e : xw = 0 <;> simp [e]
        have hp : xp = 0 ∨ (xp == 0) = false := by by_cases e : xp = 0 <;> simp [e]
        have hm0 : m = 0 ∨ ((m : Int) == 0) = false := by by_cases e : m = 0 <;> simp [e]
        have hl3 : xl < 0 ∨ (0 ≤ xl ∧ xl ≤ 200) ∨ 200 < xl := by omega
        go_enter Tryz.func67, Tryz.ntmps67
        go_upto_region 1 with fail
        rw [← HW1.out]
        go_upto_region 7 with fail
        cases wb <;> rcases hw0 with rfl | hw0 <;> rcases hp with rfl | hp <;> rcases hl3 with hl1 | ⟨hl1, hl2⟩ | hl1 <;> rcases hm0 with rfl | hm0
        all_goals
          go_wp2_with (go_at_call 108; go_must (refine (HK.out _).mono ?_; rintro r w2 ⟨rfl, rfl⟩))
          go_ret
          refine ⟨?_, HB1.out⟩
          rw [HR.out]
          first | rfl | (refine ret_bool ?_; rw [decide_eq_false (show ¬ (0 ≤ xl ∧ xl ≤ 200) by omega)]; simp; done) | (refine ret_bool ?_; simp_all; done) | (refine ret_bool ?_; simp_all; omega)
      · by_cases k3 : xk = 3
        · have HR : Hid (rb = (decide (xw = 0) && decide (xp = 0) && decide (xl = 0) && (wsF none (qs.map (·.1)) && decide (0 < m)))) := (show _ = _ by
            rw [HRB.out]; unfold rightB oldB wsB; rw [if_neg k1, if_neg k2, if_pos k3]
            have h1 := HN.out; have h2 := HLn.out; have h3 := HWs.out
            dsimp only
            rw [← h1, h3, ← h2]
            have : n = 0 ∨ n = 24 := by omega
            rw [decide_eq_true this, Bool.and_true])
          have hn2 : n = 0 ∨ n = 24 := by omega
          clear HRB hno k1 k2
          subst k3
          have HTK : Hid (wsF none (qs.map (·.1)) = false → rb = false) := fun h => by rw [HR.out, h]; simp
          rcases hn2 with rfl | rfl
          all_goals
            go_enter Tryz.func67, Tryz.ntmps67
            go_upto_region 1 with fail
            rw [← HW1.out]
            go_wp2
            go_loopw [3] (fun i wr => ∃ k : Nat, i = .int .i64 k ∧ k ≤ m ∧ Hid (wsF none ((qs.map (·.1)).take k) = true) ∧ Hid (Below w1.heap.size w1 wr)) (fun i _ => m - (intOf i).toNat)
            case atStart => exact ⟨0, rfl, by omega, (rfl : wsF none ((qs.map (·.1)).take 0) = true), (show Below _ _ _ from Below.refl _ _)⟩
            case round =>
              obtain ⟨k, rfl, hk, HI, HB⟩ := hrel
              have HBe : Hid (Below w1.heap.size w1 wr.drew) := (show Below _ _ _ from HB.out.drew)
              have HBd : Hid (Below w.heap.size w wr.drew) := (show Below _ _ _ from (bnext HB1.out HB.out).drew)
              clear z0 z1 z2 z3 z4 z5
              have hcl : ∀ (z : WIn (fun w' => Below wr.heap.size wr w')) p v, wr.cell? p = some v → z.w.cell? p = some v := fun z p v hp => (z.ok.cell (World.block_lt_of_cell? wr _ hp)).trans hp
              by_cases hki : k < m
              · obtain ⟨q, hq⟩ : ∃ q, qs[k]? = some q := ⟨_, List.getElem?_eq_getElem (by have := HM.out; omega)⟩
                have hq1 : (qs.map (·.1))[k]? = some q.1 := by rw [List.getElem?_map, hq]; rfl
                obtain ⟨b, off, ea, hc⟩ := (HV.out wr HB.out).at wq_len hq
                subst ea
                have hlq := (HRd.out q (List.mem_of_getElem? hq)).len
                have HST : Hid (stepB (prevW (qs.map (·.1)) k) q.1 = false → rb = false) := fun h => HTK.out (wsF_stop hq1 h)
                have HGO : Hid (stepB (prevW (qs.map (·.1)) k) q.1 = true → wsF none ((qs.map (·.1)).take (k + 1)) = true) := fun h => by rw [wsF_snoc hq1, HI.out, h]; rfl
                have hpv : (k = 0 ∧ prevW (qs.map (·.1)) k = none) ∨ ∃ (j : Nat) (y : Wq), k = j + 1 ∧ prevW (qs.map (·.1)) k = some y.1.w ∧ qs[j]? = some y := by
                  cases k with
                  | zero => exact .inl ⟨rfl, rfl⟩
                  | succ j =>
                    obtain ⟨y, hy⟩ : ∃ y, qs[j]? = some y := ⟨_, List.getElem?_eq_getElem (by have := HM.out; omega)⟩
                    exact .inr ⟨j, y, rfl, prevW_succ (by rw [List.getElem?_map, hy]; rfl), hy⟩
                generalize prevW (qs.map (·.1)) k = pv at *
                obtain ⟨⟨x, bs⟩, bv⟩ := q
                dsimp only at hlq
                obtain ⟨ab', cb', rfl⟩ := hlq
                have c0 := fun z => hcl z _ _ (hc 0 _ rfl)
                have c1 := fun z => hcl z _ _ (hc 1 _ rfl)
                simp only [Nat.add_zero] at c0
                dsimp only at c0 c1 HST HGO
                obtain ⟨bn, hbn⟩ : ∃ bn, bn = bs.length := ⟨_, rfl⟩
                have HBN : Hid (bn = bs.length) := hbn
                rw [← hbn] at c1
                have HD : Hid (Below wr.heap.size wr wr.drew) := (show Below _ _ _ from (Below.refl _ _).drew)
                have HK : Hid (∀ w', Calls Tryz.prog 108 #[.int .i64 x] w' fun r w'' => r = .returned (.bool (whoB x)) ∧ w'' = w') := fun w' => H58.out x w'
                have HY : Hid (∀ (j : Nat) (y : Wq), qs[j]? = some y → ∀ z : WIn (fun w' => Below wr.heap.size wr w'), z.w.cell? ⟨b, off + j * 2, none⟩ = some (.int .i64 y.1.w)) := fun j y hy z => by
                  obtain ⟨b', off', e', hc'⟩ := (HV.out z.w (bnext HB.out z.ok)).at wq_len hy
                  cases e'
                  have := hc' 0 _ rfl
                  rwa [Nat.add_zero] at this
                have ne : Nonempty (WIn (fun w' => Below wr.heap.size wr w')) := ⟨⟨wr, Below.refl _ _⟩⟩
                have hx4 := (X1.out.below HB.out).cell 4 _ rfl
                have z4 := fun z => hcl z _ _ hx4
                clear hc hq hq1 hbn hcl
                have hst : stepB pv ⟨x, bs⟩ = (whoB x && decide (bn = 16) && behB pv x) := by rw [HBN.out]; rfl
                rw [hst] at HST HGO
                clear hst
                cases hwx : whoB x
                · rw [hwx] at HST HGO HK
                  have HS2 : Hid (rb = false) := HST.out rfl
                  clear hpv HGO HST hwx
                  go_upto_region 12 with fail
                  refine wp_region_ord (C := fun w' => ∃ z : WIn (fun w' => Below wr.heap.size wr w'), w' = z.w) [(false, 0), (false, 1), (false, 2), (false, 3), (false, 4), (false, 5), (true, 6), (false, 7), (false, 8), (false, 9), (false, 10), (false, 11), (false, 12), (false, 13), (false, 14), (false, 15), (false, 16), (false, 17), (false, 18), (false, 19), (false, 20), (false, 21), (false, 22), (false, 23), (false, 24), (false, 25), (false, 26), (false, 27), (false, 28), (false, 29), (false, 30), (false, 31), (false, 32), (false, 33), (false, 34), (false, 35), (false, 36), (false, 37)] (by kernel_rfl) (by kernel_rfl) ⟨⟨wr.drew, HD.out⟩, rfl⟩ ?_
                  iterate 6 (refine ord_still rfl rfl ?_; go_big_quiet_step (exact rfl); refine wpQuiet_nil ?_)
                  refine ord_mem rfl rfl ?_
                  go_simp
                  refine (HK.out wr.drew).mono ?_
                  rintro r w2 ⟨rfl, rfl⟩
                  refine ⟨⟨⟨wr.drew, HD.out⟩, rfl⟩, ?_⟩
                  iterate 31 (refine ord_still rfl rfl ?_; go_big_quiet_step (exact rfl); refine wpQuiet_nil ?_)
                  refine ord_end ?_
                  go_wp2
                  go_ret
                  exact ⟨by rw [HS2.out]; rfl, HBd.out⟩
                · rw [hwx] at HST HGO HK
                  by_cases h16 : bn = 16
                  · subst h16
                    rcases hpv with ⟨rfl, rfl⟩ | ⟨j, y, rfl, rfl, hy⟩
                    · have HG2 : Hid (wsF none ((qs.map (·.1)).take (0 + 1)) = true) := HGO.out rfl
                      clear HGO HST hwx
                      simp only [Nat.zero_mul, Nat.add_zero] at c0 c1
                      go_upto_region 12 with fail
                      refine wp_region_ord (C := fun w' => ∃ z : WIn (fun w' => Below wr.heap.size wr w'), w' = z.w) [(false, 0), (false, 1), (false, 2), (false, 3), (false, 4), (false, 5), (true, 6), (false, 7), (false, 8), (false, 9), (false, 10), (false, 11), (false, 12), (false, 13), (false, 14), (false, 15), (false, 16), (false, 17), (false, 18), (false, 19), (false, 20), (false, 21), (false, 22), (false, 23), (false, 24), (false, 25), (false, 26), (false, 27), (false, 28), (false, 29), (false, 30), (false, 31), (false, 32), (false, 33), (false, 34), (false, 35), (false, 36), (false, 37)] (by kernel_rfl) (by kernel_rfl) ⟨⟨wr.drew, HD.out⟩, rfl⟩ ?_
                      iterate 6 (refine ord_still rfl rfl ?_; go_big_quiet_step (exact rfl); refine wpQuiet_nil ?_)
                      refine ord_mem rfl rfl ?_
                      go_simp
                      refine (HK.out wr.drew).mono ?_
                      rintro r w2 ⟨rfl, rfl⟩
                      refine ⟨⟨⟨wr.drew, HD.out⟩, rfl⟩, ?_⟩
                      iterate 31 (refine ord_still rfl rfl ?_; go_big_quiet_step (exact rfl); refine wpQuiet_nil ?_)
                      refine ord_end ?_
                      go_wp2
                      go_roundw
                      case rel => exact ⟨0 + 1, by go_num, by omega, HG2, HBe⟩
                      case measure => simp [intOf]; omega
                    · have y0 := HY.out j y hy
                      have hjn : j < m := by omega
                      by_cases hlt : y.1.w < x
                      · have HG2 : Hid (wsF none ((qs.map (·.1)).take (j + 1 + 1)) = true) := HGO.out (by simp [behB, hlt])
                        clear HGO HST hwx hy
                        generalize y.1.w = yw at *
                        go_upto_region 12 with fail
                        refine wp_region_ord (C := fun w' => ∃ z : WIn (fun w' => Below wr.heap.size wr w'), w' = z.w) [(false, 0), (false, 1), (false, 2), (false, 3), (false, 4), (false, 5), (true, 6), (false, 7), (false, 8), (false, 9), (false, 10), (false, 11), (false, 12), (false, 13), (false, 14), (false, 15), (false, 16), (false, 17), (false, 18), (false, 19), (false, 20), (false, 21), (false, 22), (false, 23), (false, 24), (false, 25), (false, 26), (false, 27), (false, 28), (false, 29), (false, 30), (false, 31), (false, 32), (false, 33), (false, 34), (false, 35), (false, 36), (false, 37)] (by kernel_rfl) (by kernel_rfl) ⟨⟨wr.drew, HD.out⟩, rfl⟩ ?_
                        iterate 6 (refine ord_still rfl rfl ?_; go_big_quiet_step (exact rfl); refine wpQuiet_nil ?_)
                        refine ord_mem rfl rfl ?_
                        go_simp
                        refine (HK.out wr.drew).mono ?_
                        rintro r w2 ⟨rfl, rfl⟩
                        refine ⟨⟨⟨wr.drew, HD.out⟩, rfl⟩, ?_⟩
                        iterate 31 (refine ord_still rfl rfl ?_; go_big_quiet_step (exact rfl); refine wpQuiet_nil ?_)
                        refine ord_end ?_
                        go_wp2
                        go_roundw
                        case rel => exact ⟨j + 1 + 1, by go_num, by omega, HG2, HBe⟩
                        case measure => simp [intOf]; omega
                      · have HS2 : Hid (rb = false) := HST.out (by simp [behB, hlt])
                        clear HGO HST hwx hy
                        generalize y.1.w = yw at *
                        go_upto_region 12 with fail
                        refine wp_region_ord (C := fun w' => ∃ z : WIn (fun w' => Below wr.heap.size wr w'), w' = z.w) [(false, 0), (false, 1), (false, 2), (false, 3), (false, 4), (false, 5), (true, 6), (false, 7), (false, 8), (false, 9), (false, 10), (false, 11), (false, 12), (false, 13), (false, 14), (false, 15), (false, 16), (false, 17), (false, 18), (false, 19), (false, 20), (false, 21), (false, 22), (false, 23), (false, 24), (false, 25), (false, 26), (false, 27), (false, 28), (false, 29), (false, 30), (false, 31), (false, 32), (false, 33), (false, 34), (false, 35), (false, 36), (false, 37)] (by kernel_rfl) (by kernel_rfl) ⟨⟨wr.drew, HD.out⟩, rfl⟩ ?_
                        iterate 6 (refine ord_still rfl rfl ?_; go_big_quiet_step (exact rfl); refine wpQuiet_nil ?_)
                        refine ord_mem rfl rfl ?_
                        go_simp
                        refine (HK.out wr.drew).mono ?_
                        rintro r w2 ⟨rfl, rfl⟩
                        refine ⟨⟨⟨wr.drew, HD.out⟩, rfl⟩, ?_⟩
                        iterate 31 (refine ord_still rfl rfl ?_; go_big_quiet_step (exact rfl); refine wpQuiet_nil ?_)
                        refine ord_end ?_
                        go_wp2
                        go_ret
                        exact ⟨by rw [HS2.out]; rfl, HBd.out⟩
                  · have h16' : ((bn : Int) != 16) = true := by simp; omega
                    have HS2 : Hid (rb = false) := HST.out (by simp [h16])
                    clear hpv HGO HST hwx h16
                    go_upto_region 12 with fail
                    refine wp_region_ord (C := fun w' => ∃ z : WIn (fun w' => Below wr.heap.size wr w'), w' = z.w) [(false, 0), (false, 1), (false, 2), (false, 3), (false, 4), (false, 5), (true, 6), (false, 7), (false, 8), (false, 9), (false, 10), (false, 11), (false, 12), (false, 13), (false, 14), (false, 15), (false, 16), (false, 17), (false, 18), (false, 19), (false, 20), (false, 21), (false, 22), (false, 23), (false, 24), (false, 25), (false, 26), (false, 27), (false, 28), (false, 29), (false, 30), (false, 31), (false, 32), (false, 33), (false, 34), (false, 35), (false, 36), (false, 37)] (by kernel_rfl) (by kernel_rfl) ⟨⟨wr.drew, HD.out⟩, rfl⟩ ?_
                    iterate 6 (refine ord_still rfl rfl ?_; go_big_quiet_step (exact rfl); refine wpQuiet_nil ?_)
                    refine ord_mem rfl rfl ?_
                    go_simp
                    refine (HK.out wr.drew).mono ?_
                    rintro r w2 ⟨rfl, rfl⟩
                    refine ⟨⟨⟨wr.drew, HD.out⟩, rfl⟩, ?_⟩
                    iterate 31 (refine ord_still rfl rfl ?_; go_big_quiet_step (exact rfl); refine wpQuiet_nil ?_)
                    refine ord_end ?_
                    go_wp2
                    go_ret
                    exact ⟨by rw [HS2.out]; rfl, HBd.out⟩
              · have HE : Hid (rb = (decide (xw = 0) && decide (xp = 0) && decide (xl = 0) && decide (0 < m))) := (show _ = _ by
                  have e : (qs.map (·.1)).take k = qs.map (·.1) := List.take_of_length_le (by rw [List.length_map]; have := HM.out; omega)
                  have := HI.out
                  rw [e] at this
                  rw [HR.out, this, Bool.true_and])
                have z0 := (X1.out.below HB.out).cell 0 _ rfl; have z1 := (X1.out.below HB.out).cell 1 _ rfl; have z2 := (X1.out.below HB.out).cell 2 _ rfl; have z3 := (X1.out.below HB.out).cell 3 _ rfl; have z4 := (X1.out.below HB.out).cell 4 _ rfl
                have HBf : Hid (Below w.heap.size w wr) := (show Below _ _ _ from bnext HB1.out HB.out)
                clear hcl
                have hw0 : xw = 0 ∨ (xw == 0) = false := by by_cases e : xw = 0 <;> simp [e]
                have hp : xp = 0 ∨ (xp == 0) = false := by by_cases e : xp = 0 <;> simp [e]
                have hl : xl = 0 ∨ (xl == 0) = false := by by_cases e : xl = 0 <;> simp [e]
                rcases hw0 with rfl | hw0 <;> rcases hp with rfl | hp <;> rcases hl with rfl | hl
                all_goals
                  go_wp2
                  go_ret
                  refine ⟨?_, HBf.out⟩
                  rw [HE.out]
                  first | rfl | (refine ret_bool ?_; simp_all)
        · have HR : Hid (rb = false) := (show _ = _ by rw [HRB.out]; unfold rightB; rw [if_neg k1, if_neg k2, if_neg k3])
          have hn0 : n = 0 := by omega
          clear HRB hno
          subst hn0
          go_enter Tryz.func67, Tryz.ntmps67
          go_upto_region 1 with fail
          rw [← HW1.out]
          go_wp2
          go_ret
          exact ⟨by rw [HR.out]; rfl, HB1.out⟩
  · have HR : Hid (rb = false) := (show _ = _ by
      rw [HRB.out]; unfold rightB keyB oldB
      have h1 := HN.out
      dsimp only
      rw [← h1]
      have h2 : ¬ n = 0 := by omega
      by_cases k1 : xk = 1
      · rw [if_pos k1]; simp [h2]
      · rw [if_neg k1]
        by_cases k2 : xk = 2
        · rw [if_pos k2]; simp [h2]
        · rw [if_neg k2]
          by_cases k3 : xk = 3
          · rw [if_pos k3]
            have h3 : ¬ n = 24 := by omega
            simp [h2, h3]
          · rw [if_neg k3])
    have hn0 : ((n : Int) != 0) = true := by simp; omega
    by_cases k3 : xk = 3
    · have hn24 : ((n : Int) != 24) = true := by simp; omega
      clear hno HRB
      subst k3
      go_enter Tryz.func67, Tryz.ntmps67
      go_upto_region 1 with fail
      rw [← HW1.out]
      go_wp2
      go_ret
      exact ⟨by rw [HR.out]; rfl, HB1.out⟩
    · have hk3 : (xk != 3) = true := by simp [k3]
      clear hno HRB
      go_enter Tryz.func67, Tryz.ntmps67
      go_upto_region 1 with fail
      rw [← HW1.out]
      go_wp2
      go_ret
      exact ⟨by rw [HR.out]; rfl, HB1.out⟩
end
end Go.Proofs.YtjbpfhnagiacmaaGreat
