/-
  The reference's Seal and Wrap answer as the plain oracle does.
-/
import Derived.Test.YtjbpfhnagiacmaaGreatRefBox
namespace Go.Proofs.YtjbpfhnagiacmaaGreat
set_option linter.unusedVariables false
set_option synthInstance.maxSize 20000
open Classical
open Go.RowKit Go.Maps
def RLeftB (W : WS) (w : World) (r : Nat) (fr : List Nat) (S' : St) (w' : World) (v : Value) (l : List Int) : Prop :=
  Rd w' v l ∧ (∃ fr', RefAt W w' r fr' S' ∧ Of fr w fr' ∧ Out fr' v) ∧ Turn fr w w' ∧ ∀ k, v.ownBlock = some k → w.heap.size ≤ k ∧ k < w'.heap.size
theorem RLeftB.nil {W : WS} {w w' : World} {r : Nat} {fr : List Nat} {S : St} (h : RefAt W w r fr S) (hb : Below w.heap.size w w') : RLeftB W w r fr S w' (.slice none 0 0) [] :=
  ⟨rd_nil _, ⟨fr, h.below hb, Of.refl _ _, (fun k hk => by cases hk)⟩, Turn.of_below hb, (fun k hk => by cases hk)⟩
theorem RLeftB.mk' {W : WS} {w w1 w2 : World} {r : Nat} {fr : List Nat} {S : St} {v : Value} {l : List Int} (h : RLeft W w r fr S w1) (ho : Own w1.heap.size 5 w2 v l) (hb : Below w1.heap.size w1 w2) : RLeftB W w r fr S w2 v l := by
  obtain ⟨⟨fr1, a1, o1⟩, t1⟩ := h
  have hlt := ho.2.lt
  refine ⟨ho.rd, ⟨fr1, a1.below hb, o1, fun k hk e => ?_⟩, t1.same (Turn.of_below hb), fun k hk => ⟨Nat.le_trans t1.size (hlt k hk).1, (hlt k hk).2⟩⟩
  have := (hlt k hk).1
  have := a1.room k e
  omega
theorem sizeI_pos {c : Int} (h : 0 ≤ c) (h7 : c < 7) : 0 < sizeI c := by
  unfold sizeI
  rw [if_pos ⟨h, h7⟩]
  have : 0 < 2 ^ c.toNat := Nat.pow_pos (by omega)
  omega
theorem wpList_zeros {w : World} {ops : Array Oper} {rest : List Oper} {o : Oper} {a : Act} {Q : Exit → Act → World → Prop} (hgd : o.guard = none) (s x : Operand)
    (ho : o.op = .call { callee := .builtin .append, args := #[s, x], argTypes := #[25, 3] }) (B : Nat) (v : Value) (l : List Int) (hs : a.eval s = v) (hown : Own B 5 w v l) (m : Nat) (k : IntKind) (hx : a.eval x = .int k m)
    (h0 : 0 < m) (hl : 0 < l.length) (hm : l.length + m ≤ 100000) (hB : B ≤ w.heap.size)
    (h : ∀ v' w', Own B 5 w' v' (l ++ List.replicate m 0) → w.grownBy w' v.ownBlock → wpList Tryz.prog ops Q rest (a.put o.dst v') w') : wpList Tryz.prog ops Q (o :: rest) a w := by
  obtain ⟨hoct, hlen, h2⟩ := hown
  rcases h2 with ⟨_, h3⟩ | ⟨g, cap, cur, rfl, hbg, hg, hnc, hcm, hcs, htake⟩
  · omega
  · obtain ⟨i, hi, hz, hs1, hs2⟩ := info_parts (bytes5.info)
    obtain ⟨v', w', hr, r1, r2⟩ := run_append_zeros w B 25 3 o.type 5 i k .i64 (by kernel_rfl) (by kernel_rfl) hi hz hs1 hs2 g l.length cap cur l hg hnc hcm (by rw [hcs, Nat.mul_one]) (by rw [← htake, Nat.mul_one]) m h0 hm hB hbg
    refine Lib.wpList_append_run w hgd s x 25 3 ho _ _ hs hx v' w' hr (h v' w' ⟨hoct.append (Oct.zeros m), ?_⟩ r2)
    rw [List.length_append, List.length_replicate]
    exact r1
set_option maxHeartbeats 2000000 in
set_option maxRecDepth 20000 in
theorem rseal_any (W : WS) (w : World) (r : Nat) (fr : List Nat) (S : St) (h : RefAt W w r fr S) (hN : S.rows.length + 1 ≤ 100000) (k : Int) (u : Value) (bd : List Int) (hu : Kp W w u bd) (v : Value) (pl : List Int) (hv : Kp W w v pl) (hlen : pl.length ≤ 1000000) :
    Calls Tryz.prog 37 #[ptr r, .int .u64 k, u, v] w fun e w' => ∃ v', e = .returned (.tuple #[v', .int .i64 (S.seal k bd pl).1.2]) ∧ RLeftB W w r fr (S.seal k bd pl).2 w' v' (S.seal k bd pl).1.1 := by
  have HA : Hid (RefAt W w r fr S) := h
  have HU : Hid (Kp W w u bd) := hu
  have HV : Hid (Kp W w v pl) := hv
  have hob := hu.1.oct
  have hop := hv.1.oct
  obtain ⟨av, cv, rfl⟩ := hv.1.len
  obtain ⟨au, cu, rfl⟩ := hu.1.len
  have HZ : Hid (sizeI (cls pl.length) = ((zerosOf pl : Nat) : Int)) := by
    unfold zerosOf
    have := (sizeI_le (cls pl.length)).1
    exact (Int.toNat_of_nonneg this).symm
  have hz2 : zerosOf pl ≤ 2000 := by
    have := (sizeI_le (cls pl.length)).2
    unfold zerosOf
    omega
  have hcl := cls_lt pl.length
  have HC : Hid (∀ w, Calls Tryz.prog 47 #[.int .i64 (pl.length : Int)] w fun e w' => e = .returned (.int .i64 (cls pl.length)) ∧ Below w.heap.size w w') := fun w => by
    have := refclass_any (pl.length : Int) w (by omega)
    rw [clsI_nat] at this
    exact this
  have HSZ : Hid (∀ w, Calls Tryz.prog 45 #[.int .i64 (cls pl.length)] w fun e w' => e = .returned (.int .i64 ((zerosOf pl : Nat) : Int)) ∧ Below w.heap.size w w') := fun w => by
    have := refsize_any (cls pl.length) w (by omega)
    rw [HZ.out] at this
    exact this
  unfold St.seal
  by_cases hkey : S.at k = some .key
  · rw [if_pos hkey]
    have HK : Hid (S.at k = some .key) := hkey
    have hU : U64 k := (at_ok h.good hkey).1
    have hfU : U64 S.fresh := (fresh_ok h.good (by omega)).2.2.1
    have HOK : Hid (WhatOk (.seal k bd pl)) := (⟨hU, hob, hop⟩ : WhatOk (.seal k bd pl))
    clear h hu hv hkey hob hop
    have YES : Hid (Calls Tryz.prog 78 #[ptr r, .int .u64 k, .int .i64 2] w fun e w' => ∃ a1 c1 a2 c2, e = .returned (.tuple #[.agg #[.int .u64 k, .int .i64 2, .slice a1 0 c1, .slice a2 0 c2, .int .u64 0, .int .u64 0], .bool true]) ∧ Below w.heap.size w w') := by
      refine (ris_yes W w r fr S HA.out k 2 .key HK.out rfl).mono ?_
      rintro e w' ⟨a1, c1, a2, c2, rfl, _, _, hb⟩
      exact ⟨a1, c1, a2, c2, rfl, hb⟩
    by_cases hc : cls pl.length = -1
    · rw [if_pos hc]
      rw [hc] at HC
      clear hcl hc HSZ HZ
      go_enter Tryz.func37, Tryz.ntmps37
      go_wp2_with (first
        | (go_at_call 78; go_must (refine YES.out.mono ?_; rintro e w0 ⟨ya, yc, yb, yd, rfl, hb0⟩))
        | (go_at_call 47; go_must (refine (HC.out _).mono ?_; rintro e w2 ⟨rfl, hb2⟩)))
      go_ret2
      exact ⟨_, rfl, RLeftB.nil HA.out (bnext (balloc hb0 _) hb2)⟩
    · rw [if_neg hc]
      have hc0 : 0 ≤ cls pl.length := by omega
      have hzp : 0 < zerosOf pl := by
        have hz := HZ.out
        have := sizeI_pos hc0 (by omega)
        omega
      generalize hcc : cls pl.length = c at HC HSZ hc0
      obtain ⟨z, hzz⟩ : ∃ z, zerosOf pl = z := ⟨_, rfl⟩
      rw [hzz] at HSZ hz2 hzp
      rw [hzz]
      clear hcl hc HZ hzz hcc
      obtain ⟨f, hf⟩ : ∃ f, S.fresh = f := ⟨_, rfl⟩
      have HF : Hid (S.fresh = f) := hf
      rw [hf] at hfU
      rw [hf]
      clear hf
      go_enter Tryz.func37, Tryz.ntmps37
      go_upto_region 4 with (go_at_call 78; go_must (refine YES.out.mono ?_; rintro e w0 ⟨ya, yc, yb, yd, rfl, hb0⟩))
      obtain ⟨w1, hw1⟩ : ∃ w1, w1 = w0.alloc (.cells #[.int .u64 k, .int .i64 2, .slice ya 0 yc, .slice yb 0 yd, .int .u64 0, .int .u64 0] 112) := ⟨_, rfl⟩
      have HB1 : Hid (Below w.heap.size w w1) := (by show Below _ _ _; rw [hw1]; exact balloc hb0 _)
      rw [← hw1]
      clear hw1 hb0 YES
      go_wp2_with (first
        | (go_at_call 47; go_must (refine (HC.out w1).mono ?_; rintro e w2 ⟨rfl, hb2⟩; have HB2 : Hid (Below w.heap.size w w2) := bnext HB1.out hb2; clear hb2 HB1))
        | (go_at_call 52; go_must (refine (rput_ref W w2 r fr S (HA.out.below HB2.out) (.seal k bd pl) HOK.out (.slice au bd.length cu) (.slice av pl.length cv) (HU.out.below HB2.out) (HV.out.below HB2.out) hN).mono ?_; rw [HF.out]; rintro e w3 ⟨rfl, hl⟩; have HL : Hid (RLeft W w r fr (S.put (.seal k bd pl)) w3) := hl.after HB2.out; clear hl))
        | (go_at_call 79; go_must (refine (eight_any f w3 hfU).mono ?_; rintro e w4 ⟨v4, rfl, ho4, hb4⟩; have HO4 : Hid (Own w3.heap.size 5 w4 v4 (be8 f)) := ho4; have HB4 : Hid (Below w3.heap.size w3 w4) := hb4; clear ho4 hb4))
        | (go_at_call 45; go_must (refine (HSZ.out w4).mono ?_; rintro e w5 ⟨rfl, hb5⟩; have HO5 : Hid (Own w3.heap.size 5 w5 v4 (be8 f)) := HO4.out.kept (below_grown hb5); have HB5 : Hid (Below w3.heap.size w3 w5) := bnext HB4.out hb5; clear hb5 HO4 HB4))
        | (at_builtin; go_must (refine wpList_zeros rfl _ _ rfl w3.heap.size v4 (be8 f) rfl HO5.out z .i64 rfl hzp (by rw [be8_length]; omega) (by rw [be8_length]; omega) HB5.out.size ?_; intro v6 w6 ho6 hg6)))
      go_ret2
      refine ⟨_, rfl, RLeftB.mk' HL.out ho6 (HO5.out.below HB5.out (Nat.le_refl _) hg6)⟩
  · rw [if_neg hkey]
    have HS : Hid (∀ x, S.at k = some x → kindOf x ≠ 2) := (fun x hx e => hkey (by rw [hx, kind2 e]) : ∀ x, S.at k = some x → kindOf x ≠ 2)
    clear hkey h hu hv
    go_enter Tryz.func37, Tryz.ntmps37
    go_wp2_with (go_at_call 78; go_must (refine (ris_no W w r fr S HA.out k 2 HS.out).mono ?_; rintro e w0 ⟨rfl, hb0⟩))
    go_ret2
    exact ⟨_, rfl, RLeftB.nil HA.out (balloc hb0 _)⟩
set_option maxHeartbeats 2000000 in
set_option maxRecDepth 20000 in
theorem rwrap_any (W : WS) (w : World) (r : Nat) (fr : List Nat) (S : St) (h : RefAt W w r fr S) (hN : S.rows.length + 1 ≤ 100000) (p k : Int) :
    Calls Tryz.prog 59 #[ptr r, .int .u64 p, .int .u64 k] w fun e w' => ∃ v', e = .returned (.tuple #[v', .int .i64 (S.wrap p k).1.2]) ∧ RLeftB W w r fr (S.wrap p k).2 w' v' (S.wrap p k).1.1 := by
  have HA : Hid (RefAt W w r fr S) := h
  rcases (notkind : (∀ x, S.at p = some x → kindOf x ≠ 4) ∨ _) with hp | ⟨x, hp, hk⟩
  · have hw : S.wrap p k = (([], 20), S) := by
      unfold St.wrap
      split
      · rename_i s e
        exact absurd rfl (hp _ e)
      · rfl
    rw [hw]
    have HP : Hid (∀ x, S.at p = some x → kindOf x ≠ 4) := hp
    clear hw hp h
    go_enter Tryz.func59, Tryz.ntmps59
    go_wp2_with (go_at_call 78; go_must (refine (ris_no W w r fr S HA.out p 4 HP.out).mono ?_; rintro e w0 ⟨rfl, hb0⟩))
    go_ret2
    exact ⟨_, rfl, RLeftB.nil HA.out (balloc hb0 _)⟩
  · obtain ⟨s, rfl⟩ := kind4 hk
    have HP : Hid (S.at p = some (.pub s)) := hp
    have YES4 : Hid (∀ w, RefAt W w r fr S → Calls Tryz.prog 78 #[ptr r, .int .u64 p, .int .i64 4] w fun e w' => ∃ a1 c1 a2 c2, e = .returned (.tuple #[.agg #[.int .u64 p, .int .i64 4, .slice a1 0 c1, .slice a2 0 c2, .int .u64 s, .int .u64 0], .bool true]) ∧ Below w.heap.size w w') := fun w hA => by
      refine (ris_yes W w r fr S hA p 4 (.pub s) HP.out rfl).mono ?_
      rintro e w' ⟨a1, c1, a2, c2, rfl, _, _, hb⟩
      exact ⟨a1, c1, a2, c2, rfl, hb⟩
    by_cases hkey : S.at k = some .key
    · have hw : S.wrap p k = ((boxOf S.fresh 8, 0), S.put (.wrap s k p)) := by unfold St.wrap; rw [hp]; dsimp only; rw [if_pos hkey]
      rw [hw]
      have HK : Hid (S.at k = some .key) := hkey
      have hfU : U64 S.fresh := (fresh_ok h.good (by omega)).2.2.1
      have HOK : Hid (WhatOk (.wrap s k p)) := (⟨(at_ok h.good hp).2.2, (at_ok h.good hkey).1, (at_ok h.good hp).1⟩ : WhatOk (.wrap s k p))
      have YES2 : Hid (∀ w, RefAt W w r fr S → Calls Tryz.prog 78 #[ptr r, .int .u64 k, .int .i64 2] w fun e w' => ∃ a1 c1 a2 c2, e = .returned (.tuple #[.agg #[.int .u64 k, .int .i64 2, .slice a1 0 c1, .slice a2 0 c2, .int .u64 0, .int .u64 0], .bool true]) ∧ Below w.heap.size w w') := fun w hA => by
        refine (ris_yes W w r fr S hA k 2 .key HK.out rfl).mono ?_
        rintro e w' ⟨a1, c1, a2, c2, rfl, _, _, hb⟩
        exact ⟨a1, c1, a2, c2, rfl, hb⟩
      clear hw hp hk hkey h
      obtain ⟨f, hf⟩ : ∃ f, S.fresh = f := ⟨_, rfl⟩
      have HF : Hid (S.fresh = f) := hf
      rw [hf] at hfU
      rw [hf]
      clear hf
      go_enter Tryz.func59, Tryz.ntmps59
      go_upto_region 4 with (go_at_call 78; go_must (refine (YES4.out w HA.out).mono ?_; rintro e w0 ⟨ya, yc, yb, yd, rfl, hb0⟩))
      obtain ⟨w1, hw1⟩ : ∃ w1, w1 = w0.alloc (.cells #[.int .u64 p, .int .i64 4, .slice ya 0 yc, .slice yb 0 yd, .int .u64 s, .int .u64 0] 112) := ⟨_, rfl⟩
      have HB1 : Hid (Below w.heap.size w w1) := (by show Below _ _ _; rw [hw1]; exact balloc hb0 _)
      rw [← hw1]
      clear hw1 hb0 YES4
      go_upto_region 7 with (go_at_call 78; go_must (refine (YES2.out w1 (HA.out.below HB1.out)).mono ?_; rintro e w2 ⟨za, zc, zb, zd, rfl, hb2⟩))
      obtain ⟨w3, hw3⟩ : ∃ w3, w3 = w2.alloc (.cells #[.int .u64 k, .int .i64 2, .slice za 0 zc, .slice zb 0 zd, .int .u64 0, .int .u64 0] 112) := ⟨_, rfl⟩
      have HB3 : Hid (Below w.heap.size w w3) := (by show Below _ _ _; rw [hw3]; exact balloc (bnext HB1.out hb2) _)
      rw [← hw3]
      clear hw3 hb2 YES2 HB1
      go_wp2_with (first
        | (go_at_call 52; go_must (refine (rput_ref W w3 r fr S (HA.out.below HB3.out) (.wrap s k p) HOK.out (.slice none 0 0) (.slice none 0 0) (kp_nil _ _) (kp_nil _ _) hN).mono ?_; rw [HF.out]; rintro e w4 ⟨rfl, hl⟩; have HL : Hid (RLeft W w r fr (S.put (.wrap s k p)) w4) := hl.after HB3.out; clear hl))
        | (go_at_call 79; go_must (refine (eight_any f w4 hfU).mono ?_; rintro e w5 ⟨v5, rfl, ho5, hb5⟩; have HO5 : Hid (Own w4.heap.size 5 w5 v5 (be8 f)) := ho5; have HB5 : Hid (Below w4.heap.size w4 w5) := hb5; clear ho5 hb5))
        | (at_builtin; go_must (refine wpList_zeros rfl _ _ rfl w4.heap.size v5 (be8 f) rfl HO5.out 8 .i64 rfl (by omega) (by rw [be8_length]; omega) (by rw [be8_length]; omega) HB5.out.size ?_; intro v6 w6 ho6 hg6)))
      go_ret2
      refine ⟨_, rfl, RLeftB.mk' HL.out ho6 (HO5.out.below HB5.out (Nat.le_refl _) hg6)⟩
    · have hw : S.wrap p k = (([], 11), S) := by unfold St.wrap; rw [hp]; dsimp only; rw [if_neg hkey]
      rw [hw]
      have HS : Hid (∀ x, S.at k = some x → kindOf x ≠ 2) := (fun x hx e => hkey (by rw [hx, kind2 e]) : ∀ x, S.at k = some x → kindOf x ≠ 2)
      clear hw hp hk hkey h
      go_enter Tryz.func59, Tryz.ntmps59
      go_upto_region 4 with (go_at_call 78; go_must (refine (YES4.out w HA.out).mono ?_; rintro e w0 ⟨ya, yc, yb, yd, rfl, hb0⟩))
      obtain ⟨w1, hw1⟩ : ∃ w1, w1 = w0.alloc (.cells #[.int .u64 p, .int .i64 4, .slice ya 0 yc, .slice yb 0 yd, .int .u64 s, .int .u64 0] 112) := ⟨_, rfl⟩
      have HB1 : Hid (Below w.heap.size w w1) := (by show Below _ _ _; rw [hw1]; exact balloc hb0 _)
      rw [← hw1]
      clear hw1 hb0 YES4
      go_wp2_with (go_at_call 78; go_must (refine (ris_no W w1 r fr S (HA.out.below HB1.out) k 2 HS.out).mono ?_; rintro e w2 ⟨rfl, hb2⟩))
      go_ret2
      exact ⟨_, rfl, RLeftB.nil HA.out (balloc (bnext HB1.out hb2) _)⟩
end Go.Proofs.YtjbpfhnagiacmaaGreat
