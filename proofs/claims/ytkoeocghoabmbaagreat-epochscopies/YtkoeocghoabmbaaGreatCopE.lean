/-
  EpochsCopies, the walk.
-/
import Derived.Test.YtkoeocghoabmbaaGreatPlaE
import Derived.Test.YtkoeocghoabmbaaGreatDoS
namespace Go.Proofs.YtkoeocghoabmbaaGreat
set_option linter.unusedVariables false
set_option linter.unusedSimpArgs false
set_option synthInstance.maxSize 20000
set_option maxHeartbeats 2000000
set_option maxRecDepth 20000
open Go.RowKit Go.Maps

theorem cg_zero (w : World) : CgAt w ⟨0, 0, 0, 0, [], []⟩ (.slice none 0 0) (.slice none 0 0) [] := ⟨rowF_nil _, (fun q hq => by cases hq), (fun q hq => by cases hq), rfl, rd_nil _, by unfold I64; dsimp only; omega, by unfold I64; dsimp only; omega, by unfold U64; dsimp only; omega, by unfold I64; dsimp only; omega⟩
theorem learn20_zero (w : World) : Calls Tryz.prog 20 #[.pointer none, .agg #[.int .i64 0, .int .i64 0, .int .u64 0, .int .i64 0, .slice none 0 0, .slice none 0 0]] w fun x w' => x = .returned (.int .i64 23) ∧ Below w.heap.size w w' := by
  have h := learn20_nil w (cg_zero w)
  unfold cv at h
  exact h
/-- A step of a list, as the laws' loops take it. -/
def StepF (w : World) (wb c : Nat) (cs : List Oq) (av : Option Addr) (n cap : Nat) : Prop := ∀ k, k < n → c + k < 90 → ∃ g off, av = some ⟨g, off, none⟩ ∧ ∃ (q : Oq) (xa : Option Addr) (na pa : Nat) (xb : Option Addr) (nb pb : Nat), ∀ (wr : World) (o : Nat → Nat) (G : Gd) (sl tl : Value), WG w wr o wb G sl tl → Inv G (8 + 100 * (c + k)) (c + k + 1) →
  wr.cell? ⟨g, off + k * 5, none⟩ = some (.int .i64 q.1.k) ∧ wr.cell? ⟨g, off + k * 5 + 1, none⟩ = some (.int .i64 q.1.w) ∧ wr.cell? ⟨g, off + k * 5 + 2, none⟩ = some (.int .u64 q.1.p) ∧ wr.cell? ⟨g, off + k * 5 + 3, none⟩ = some (.slice xa na pa) ∧ wr.cell? ⟨g, off + k * 5 + 4, none⟩ = some (.slice xb nb pb) ∧
  Calls Tryz.prog 10 #[ptr wb, .agg #[.int .i64 q.1.k, .int .i64 q.1.w, .int .u64 q.1.p, .slice xa na pa, .slice xb nb pb]] wr (StPost w wr o wb (c + k))
theorem stepF {w : World} {av : Option Addr} {cap : Nat} {cs : List Oq} (wb c : Nat) (h : OpsAt w (.slice av cs.length cap) cs) (hf : ∀ q ∈ cs, fewO q) : StepF w wb c cs av cs.length cap := by
  intro k hk hc
  obtain ⟨q, hq⟩ : ∃ q, cs[k]? = some q := ⟨_, List.getElem?_eq_getElem hk⟩
  obtain ⟨g, off, ea, _⟩ := h.row.at oqf_len hq
  obtain ⟨qs, hC⟩ := h.each q (List.mem_of_getElem? hq)
  obtain ⟨xa, pa, ha⟩ := hC.cg.row.len
  obtain ⟨xb, pb, hb⟩ := hC.cg.old.len
  dsimp only at hb
  refine ⟨g, off, ea, q, xa, qs.length, pa, xb, q.1.o.length, pb, fun wr o G sl tl hW hI => ?_⟩
  obtain ⟨g', off', ea', hr⟩ := (h.row.below hW.bel).at oqf_len hq
  rw [ea] at ea'
  cases ea'
  have hd := do_step hW hI hc hC (hf q (List.mem_of_getElem? hq))
  have e3 := hr 3 _ rfl
  have e4 := hr 4 _ rfl
  rw [ha] at e3 hd
  rw [hb] at e4 hd
  exact ⟨hr 0 _ rfl, hr 1 _ rfl, hr 2 _ rfl, e3, e4, hd⟩
set_option maxHeartbeats 8000000 in
theorem copies6 (lv : Value) (cs : List Oq) (mv : Value) (ms : List Oq) (who : Int) (w : World) (hl : OpsAt w lv cs) (hm : OpsAt w mv ms) (hw : I64 who) : Calls Tryz.prog 6 #[lv, mv, .int .i64 who] w fun r w' => r = .returned (.bool true) ∧ Below w.heap.size w w' := by
  have HNW : Hid (Calls Tryz.prog 9 #[.slice none 0 0] w (NwPost w ⟨[], []⟩)) := newWorld9 (rdU_nil w) (by simp)
  obtain ⟨b1, hb1⟩ := lt_bool 0 cs
  obtain ⟨b2, hb2⟩ := lt_bool 0 ms
  have HB1 : Hid (b1 = true → LtP 0 cs) := hb1.1
  have HB2 : Hid (b2 = true → LtP 0 ms) := hb2.1
  have HL1 : Hid (Calls Tryz.prog 7 #[.slice none 0 0, lv] w (LtPost w b1)) := light7 (Nat.le_refl 0) (by omega) hl hb1
  have HL2 : Hid (Calls Tryz.prog 7 #[.slice none 0 0, mv] w (LtPost w b2)) := light7 (Nat.le_refl 0) (by omega) hm hb2
  have HAl : Hid (∀ w' : World, Calls Tryz.prog 8 #[] w' fun r w'' => r = .returned (.bool true) ∧ Below w'.heap.size w' w'') := fun w' => alive8 w'
  obtain ⟨av, cap, rfl⟩ := hl.row.len
  have hcap := hl.row.caps
  have hc1 : cs.length ≤ cap := hcap.2.1
  have hc2 : cap ≤ 9223372036854775807 := hcap.2.2
  obtain ⟨am, cam, rfl⟩ := hm.row.len
  have hcam := hm.row.caps
  have hc3 : ms.length ≤ cam := hcam.2.1
  have hc4 : cam ≤ 9223372036854775807 := hcam.2.2
  have HS1 : Hid (∀ wb, (∀ q ∈ cs, fewO q) → StepF w wb 0 cs av cs.length cap) := fun wb hf => stepF wb 0 hl hf
  have HS2 : Hid (∀ wb, (∀ q ∈ ms, fewO q) → StepF w wb cs.length ms am ms.length cam) := fun wb hf => stepF wb cs.length hm hf
  obtain ⟨n, hn⟩ : ∃ n, n = cs.length := ⟨_, rfl⟩
  have HN : Hid (n = cs.length) := hn
  obtain ⟨m, hm'⟩ : ∃ m, m = ms.length := ⟨_, rfl⟩
  have HM : Hid (m = ms.length) := hm'
  rw [← hn] at hc1 HL1 HS1 HS2 ⊢
  rw [← hm'] at hc3 HL2 HS2 ⊢
  clear hl hm hcap hcam hn hm' hb1 hb2
  cases b1 with
  | false =>
    go_enter Tryz.func6, Tryz.ntmps6
    go_wp2_with (first
      | (go_at_call 7; go_must (refine HL1.out.mono ?_; rintro r w1 ⟨rfl, hw1⟩; subst w1))
      | (go_at_call 8; go_must (refine (HAl.out w).mono ?_; rintro r w2 ⟨rfl, hb2⟩)))
    go_ret
    exact ⟨rfl, hb2⟩
  | true =>
    cases b2 with
    | false =>
      go_enter Tryz.func6, Tryz.ntmps6
      go_wp2_with (first
        | (go_at_call 7; first | ((with_reducible refine HL1.out.mono ?_); rintro r w1 ⟨rfl, hw1⟩; subst w1) | (refine HL2.out.mono ?_; rintro r w1 ⟨rfl, hw1⟩; subst w1))
        | (go_at_call 8; go_must (refine (HAl.out w).mono ?_; rintro r w2 ⟨rfl, hb2⟩)))
      go_ret
      exact ⟨rfl, hb2⟩
    | true =>
      by_cases hwh : 0 ≤ who ∧ who ≤ 3
      · obtain ⟨j, hj⟩ : ∃ j : Nat, who = j := ⟨who.toNat, by omega⟩
        subst hj
        have hj4 : j < 4 := by omega
        obtain ⟨_, h40, hf1⟩ := HB1.out rfl
        obtain ⟨_, h42, hf2⟩ := HB2.out rfl
        have hn40 : n ≤ 40 := by rw [HN.out]; exact h40
        have hm40 : m ≤ 40 := by rw [HM.out]; exact h42
        have HT1 : Hid (∀ wb, StepF w wb 0 cs av n cap) := fun wb => HS1.out wb hf1
        have HT2 : Hid (∀ wb, StepF w wb n ms am m cam) := fun wb => HS2.out wb hf2
        clear HS1 HS2 h40 h42 hf1 hf2 HB1 HB2 hwh hw
        go_enter Tryz.func6, Tryz.ntmps6
        go_upto_if 46 with (first
          | (go_at_call 7; first | ((with_reducible refine HL1.out.mono ?_); rintro r w1 ⟨rfl, hw1⟩; subst w1) | (refine HL2.out.mono ?_; rintro r w1 ⟨rfl, hw1⟩; subst w1))
          | (go_at_call 9; go_must (refine HNW.out.mono ?_; rintro r w2 ⟨wb, ob, rr, rb, mb, o2, sl2, tl2, rfl, hW2⟩)))
        have HW3 : Hid (WG w w2 o2 wb (gd0 ⟨[], []⟩ ob rr rb mb) sl2 tl2) := hW2
        have HI3 : Hid (Inv (gd0 ⟨[], []⟩ ob rr rb mb) (8 + 100 * 0) (0 + 1)) := (show Inv _ _ _ from gd0_inv (fun _ h => by cases h) ob rr rb mb)
        generalize gd0 ⟨[], []⟩ ob rr rb mb = G3 at *
        have HT3 := HT1.out wb
        have HT4 := HT2.out wb
        have HT5 : Hid (StepF w wb 0 cs av n cap) := HT3
        have HT6 : Hid (StepF w wb n ms am m cam) := HT4
        clear hW2 HNW HL1 HL2 HT1 HT2 HT3 HT4
        go_wp2
        go_loopw [8] (fun i wr => ∃ k : Nat, i = .int .i64 k ∧ k ≤ n ∧ ∃ (o4 : Nat → Nat) (G : Gd) (sl tl : Value), Hid (WG w wr o4 wb G sl tl) ∧ Hid (Inv G (8 + 100 * k) (k + 1))) (fun i _ => n - (intOf i).toNat)
        case atStart => exact ⟨0, rfl, by omega, o2, G3, sl2, tl2, HW3.out, HI3.out⟩
        case round =>
          obtain ⟨k, rfl, hk, o4, G, sl, tl, HW4, HI4⟩ := hrel
          by_cases hkn : k < n
          · obtain ⟨g, off, ea, q, xa, na, pa, xb, nb, pb, hq⟩ := HT5.out k hkn (by omega)
            subst ea
            obtain ⟨e0, e1, e2, e3, e4, hD⟩ := hq wr o4 G sl tl HW4.out (by rw [Nat.zero_add]; exact HI4.out)
            rw [Nat.zero_add] at hD
            clear hq
            go_wp2_with (go_at_call 10; go_must (refine hD.mono ?_; rintro r w5 ⟨rfl, o5, G5, sl5, tl5, hW5, hI5, _⟩))
            go_roundw
            case rel => exact ⟨k + 1, by go_num, by omega, o5, G5, sl5, tl5, hW5, hI5⟩
            case measure => simp [intOf]; omega
          · have HI5 : Hid (Inv G (8 + 100 * (n + 0)) (n + 0 + 1)) := (show Inv _ _ _ by
              have e : k = n := by omega
              rw [Nat.add_zero, ← e]
              exact HI4.out)
            have y1 := HW4.out.blk.cell _ _ (wcs_r G sl tl hj4)
            have HCp := copy22 (HW4.out.rings j hj4) 40
            go_upto_region 11 with (go_at_call 22; go_must (refine HCp.mono ?_; rintro r w5 ⟨cb, rfl, hR5, hM5⟩))
            have HW5 : Hid (WG w w5 (newTo o4 wr 40) wb G sl tl) := (show WG _ _ _ _ _ _ _ from HW4.out.mv hM5 (by simp))
            have HR5 : Hid (RIs w5 (newTo o4 wr 40) 40 cb G.ob (G.P j)) := hR5
            have HCa : Hid (Calls Tryz.prog 13 #[ptr cb] w5 fun x w'' => x = .returned (.int .i64 ((G.P j).ks.length : Int)) ∧ w'' = w5) := count13 hR5
            have HCb : Hid (Calls Tryz.prog 13 #[ptr (G.rb j)] w5 fun x w'' => x = .returned (.int .i64 ((G.P j).ks.length : Int)) ∧ w'' = w5) := count13 (HW5.out.rings j hj4)
            have HCw : Hid (Calls Tryz.prog 14 #[ptr cb] w5 fun x w'' => x = .returned (.int .i64 (j : Int)) ∧ w'' = w5) := (by
              have h1 := who14 hR5
              rw [HI5.out.who j hj4] at h1
              exact h1)
            have HKa : Hid (∀ e, Calls Tryz.prog 11 #[ptr cb, .int .i64 e] w5 fun x w'' => x = .returned (.tuple #[.int .u64 (keyM (G.P j).ks e).1, .int .i64 (keyM (G.P j).ks e).2]) ∧ w'' = w5) := fun e => key11 hR5 e
            have HKb : Hid (∀ e, Calls Tryz.prog 11 #[ptr (G.rb j), .int .i64 e] w5 fun x w'' => x = .returned (.tuple #[.int .u64 (keyM (G.P j).ks e).1, .int .i64 (keyM (G.P j).ks e).2]) ∧ w'' = w5) := fun e => key11 (HW5.out.rings j hj4) e
            have z1 := HW5.out.blk.cell _ _ (wcs_r G sl tl hj4)
            have HCe : Hid (∀ w' o', RIs w' o' 40 cb G.ob (G.P j) → Calls Tryz.prog 13 #[ptr cb] w' fun x w'' => x = .returned (.int .i64 ((G.P j).ks.length : Int)) ∧ w'' = w') := fun w' o' h => count13 h
            have hkl : (G.P j).ks.length ≤ 20 := (by
              obtain ⟨_, _, _, _, _, _, h⟩ := hR5
              exact h)
            generalize hrbj : G.rb j = rbj at *
            generalize hobj : G.ob = obj at *
            generalize hpj : G.P j = PJ at *
            generalize PJ.ks.length = kl at *
            have hk2 : (kl : Int) = kl := rfl
            clear hrbj hobj hpj hR5 hM5 y1 HCp HW4 HI4 HT5 HW3 HI3 hk2
            generalize newTo o4 wr 40 = o5 at *
            go_upto_if 82 with (first
              | (go_at_call 13; first | ((with_reducible refine HCa.out.mono ?_); rintro r w6 ⟨rfl, hw6⟩; subst w6) | (refine HCb.out.mono ?_; rintro r w6 ⟨rfl, hw6⟩; subst w6))
              | (go_at_call 14; go_must (refine HCw.out.mono ?_; rintro r w6 ⟨rfl, hw6⟩; subst w6)))
            clear HCa HCb HCw
            go_wp2
            go_loopw [11] (fun i wr => ∃ i2 : Nat, i = .int .i64 i2 ∧ i2 ≤ kl ∧ Hid (w5 = wr)) (fun i _ => kl - (intOf i).toNat)
            case atStart => exact ⟨0, rfl, by omega, (show w5 = w5 from rfl)⟩
            case round =>
              obtain ⟨i2, rfl, hi2, HWr⟩ := hrel
              have hww := HWr.out
              subst hww
              by_cases hik : i2 < kl
              · have HKa2 := HKa.out i2
                have HKb2 := HKb.out i2
                generalize (keyM PJ.ks i2).1 = ky at *
                generalize (keyM PJ.ks i2).2 = kk at *
                have n1 : (ky != ky) = false := by simp
                have n2 : (kk != kk) = false := by simp
                go_wp2_with (go_at_call 11; first | ((with_reducible refine HKa2.mono ?_); rintro r w7 ⟨rfl, hw7⟩; subst w7) | (refine HKb2.mono ?_; rintro r w7 ⟨rfl, hw7⟩; subst w7))
                go_roundw
                case rel => exact ⟨i2 + 1, by go_num, by omega, trivial⟩
                case measure => simp [intOf]; omega
              · clear HKa HKb z1
                go_wp2
                go_loopw [16] (fun i wr => ∃ k2 : Nat, i = .int .i64 k2 ∧ k2 ≤ m ∧ ∃ (o6 : Nat → Nat) (G6 : Gd) (sl6 tl6 : Value), Hid (WG w wr o6 wb G6 sl6 tl6) ∧ Hid (Inv G6 (8 + 100 * (n + k2)) (n + k2 + 1)) ∧ Hid (RIs wr o6 40 cb obj PJ)) (fun i _ => m - (intOf i).toNat)
                case atStart => exact ⟨0, rfl, by omega, o5, G, sl, tl, HW5.out, HI5.out, HR5.out⟩
                case round =>
                  obtain ⟨k2, rfl, hk2, o6, G6, sl6, tl6, HW6, HI6, HR6⟩ := hrel
                  by_cases hkm : k2 < m
                  · obtain ⟨g, off, ea, q, xa, na, pa, xb, nb, pb, hq⟩ := HT6.out k2 hkm (by omega)
                    subst ea
                    obtain ⟨e0, e1, e2, e3, e4, hD⟩ := hq wr o6 G6 sl6 tl6 HW6.out HI6.out
                    clear hq
                    go_wp2_with (go_at_call 10; go_must (refine hD.mono ?_; rintro r w7 ⟨rfl, o7, G7, sl7, tl7, hW7, hI7, hM7⟩))
                    have HR7 : Hid (RIs w7 o7 40 cb obj PJ) := (show RIs _ _ _ _ _ _ from HR6.out.mv hM7 (by decide) (by decide))
                    go_roundw
                    case rel => exact ⟨k2 + 1, by go_num, by omega, o7, G7, sl7, tl7, hW7, hI7, HR7.out⟩
                    case measure => simp [intOf]; omega
                  · obtain ⟨sa, sc, hsl⟩ := HW6.out.s.slice
                    subst hsl
                    have c0 := HW6.out.blk.cell 0 _ rfl
                    have c14 := HW6.out.blk.cell 14 _ rfl
                    have c15 := HW6.out.blk.cell 15 _ rfl
                    have HN1 := key11_nil wr 0
                    have HN2 := new23_nil wr 1
                    have HN3 : Hid (∀ v, Calls Tryz.prog 23 #[v, .int .i64 (-1), .int .u64 1] wr fun r w' => r = .returned (.tuple #[.pointer none, .int .i64 1]) ∧ w' = wr) := fun v => new23_neg wr v 1
                    have HN4 : Hid (Calls Tryz.prog 15 #[.pointer none, .agg #[.slice sa G6.M.l.length sc, .int .i64 G6.M.e], .int .u64 1] wr fun x w' => x = .returned (.tuple #[.agg #[.int .i64 0, .int .i64 0, .int .u64 0, .int .i64 0, .slice none 0 0, .slice none 0 0], .int .u64 0, .int .i64 23]) ∧ Below wr.heap.size wr w') := begin15_nil wr ⟨_, _, _, rfl⟩
                    have HN5 : Hid (∀ w', Calls Tryz.prog 14 #[.pointer none] w' fun r w'' => r = .returned (.int .i64 (-1)) ∧ w'' = w') := fun w' => who14_nil w'
                    have HN6 : Hid (∀ w', Calls Tryz.prog 13 #[.pointer none] w' fun r w'' => r = .returned (.int .i64 0) ∧ w'' = w') := fun w' => count13_nil w'
                    have HN7 : Hid (∀ w', Calls Tryz.prog 20 #[.pointer none, .agg #[.int .i64 0, .int .i64 0, .int .u64 0, .int .i64 0, .slice none 0 0, .slice none 0 0]] w' fun r w'' => r = .returned (.int .i64 23) ∧ Below w'.heap.size w' w'') := fun w' => learn20_zero w'
                    have HN8 : Hid (∀ w', Calls Tryz.prog 22 #[.pointer none] w' fun r w'' => r = .returned (.pointer none) ∧ w'' = w') := fun w' => copy22_nil w'
                    have hkk : ((kl : Int) == (kl : Int)) = true := by simp
                    go_upto_region 30 with (first
                      | (go_at_call 11; go_must (refine HN1.mono ?_; rintro r w7 ⟨rfl, hw7⟩; subst w7))
                      | (go_at_call 23; first | ((with_reducible refine HN2.mono ?_); rintro r w7 ⟨rfl, hw7⟩; subst w7) | (refine (HN3.out _).mono ?_; rintro r w7 ⟨rfl, hw7⟩; subst w7))
                      | (go_at_call 15; go_must (refine HN4.out.mono ?_; rintro r w8 ⟨rfl, hb8⟩)))
                    have HB9 : Hid (Below wr.heap.size wr (w8.alloc (.cells #[.int .i64 0, .int .i64 0, .int .u64 0, .int .i64 0, .slice none 0 0, .slice none 0 0] 59))) := (show Below _ _ _ from balloc hb8 _)
                    generalize w8.alloc (.cells #[.int .i64 0, .int .i64 0, .int .u64 0, .int .i64 0, .slice none 0 0, .slice none 0 0] 59) = w9 at *
                    have HCf := HCe.out w9 _ (HR6.out.mv (Mv.of_below (I := []) 0 HB9.out) (by simp) (by simp))
                    clear HN1 HN2 HN3 HN4 c0 c14 c15 hb8
                    go_wp2_with (first
                      | (go_at_call 13; first | ((with_reducible refine HCf.mono ?_); rintro r w7 ⟨rfl, hw7⟩; subst w7) | (refine (HN6.out w9).mono ?_; rintro r w7 ⟨rfl, hw7⟩; subst w7))
                      | (go_at_call 14; go_must (refine (HN5.out w9).mono ?_; rintro r w7 ⟨rfl, hw7⟩; subst w7))
                      | (go_at_call 20; go_must (refine (HN7.out w9).mono ?_; rintro r wA ⟨rfl, hbA⟩))
                      | (go_at_call 22; go_must (refine (HN8.out wA).mono ?_; rintro r w7 ⟨rfl, hw7⟩; subst w7))
                      | (go_at_call 8; go_must (refine (HAl.out wA).mono ?_; rintro r wB ⟨rfl, hbB⟩)))
                    go_ret
                    exact ⟨rfl, bnext (bnext (bnext HW6.out.bel HB9.out) hbA) hbB⟩
      · go_enter Tryz.func6, Tryz.ntmps6
        by_cases h0 : who < 0
        · go_wp2_with (first
            | (go_at_call 7; first | ((with_reducible refine HL1.out.mono ?_); rintro r w1 ⟨rfl, hw1⟩; subst w1) | (refine HL2.out.mono ?_; rintro r w1 ⟨rfl, hw1⟩; subst w1))
            | (go_at_call 8; go_must (refine (HAl.out w).mono ?_; rintro r w2 ⟨rfl, hb2⟩)))
          go_ret
          exact ⟨rfl, hb2⟩
        · have h3 : 3 < who := by omega
          go_wp2_with (first
            | (go_at_call 7; first | ((with_reducible refine HL1.out.mono ?_); rintro r w1 ⟨rfl, hw1⟩; subst w1) | (refine HL2.out.mono ?_; rintro r w1 ⟨rfl, hw1⟩; subst w1))
            | (go_at_call 8; go_must (refine (HAl.out w).mono ?_; rintro r w2 ⟨rfl, hb2⟩)))
          go_ret
          exact ⟨rfl, hb2⟩
end Go.Proofs.YtkoeocghoabmbaaGreat
