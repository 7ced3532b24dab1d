/-
  EpochsPlays, the walk.
-/
import Derived.Test.YtkoeocghoabmbaaGreatStp
namespace Go.Proofs.YtkoeocghoabmbaaGreat
set_option linter.unusedVariables false
set_option linter.unusedSimpArgs false
set_option synthInstance.maxSize 20000
set_option maxHeartbeats 2000000
set_option maxRecDepth 20000
open Go.RowKit Go.Maps

theorem RRIs.keys {w : World} {o : Nat → Nat} {j rb : Nat} {r : Rg} (h : RRIs w o j rb r) : ∃ a c, w.cell? ⟨rb, 2, none⟩ = some (.slice a r.ks.length c) ∧ r.ks.length ≤ 20 := by
  obtain ⟨kv, ov, qs, hA, _, _, hf⟩ := h
  obtain ⟨a, c, e, _⟩ := hA.kslice
  subst e
  exact ⟨a, c, hA.blk.cell 2 _ rfl, hf⟩
theorem mv_drewN (I : List Nat) (w : World) (o : Nat → Nat) (n : Nat) : Mv I w o (w.drewN n) o := ⟨rfl, rfl, rfl, Nat.le_refl _, fun _ _ => rfl, fun _ _ _ => rfl⟩
theorem plays3 (dv : Value) (ds : List Int) (lv : Value) (cs : List Oq) (e : Int) (w : World) (hd : RdU w dv ds) (hl : OpsAt w lv cs) (he : I64 e) : Calls Tryz.prog 3 #[dv, lv, .int .i64 e] w fun r w' => r = .returned (.bool true) ∧ Below w.heap.size w w' := by
  have HNW : Hid (ds.length ≤ 50 → Calls Tryz.prog 9 #[dv] w (NwPost w ⟨ds, []⟩)) := fun h => newWorld9 hd (by omega)
  have HDs : Hid (∀ d ∈ ds, U64 d) := hd.1
  obtain ⟨_, da, dc, rfl, hdc, hdm, _⟩ := hd
  have hdm' : dc ≤ 9223372036854775807 := hdm
  obtain ⟨b, hb⟩ := lt_bool ds.length cs
  have HB : Hid (b = true → LtP ds.length cs) := hb.1
  have HLt : Hid (Calls Tryz.prog 7 #[.slice da ds.length dc, lv] w (LtPost w b)) := light7 hdc hdm' hl hb
  clear hb
  obtain ⟨av, cap, rfl⟩ := hl.row.len
  have hcap := hl.row.caps
  have hc1 : cs.length ≤ cap := hcap.2.1
  have hc2 : cap ≤ 9223372036854775807 := hcap.2.2
  have HRow : Hid (RowF oqf w (.slice av cs.length cap) cs) := hl.row
  have HE : Hid (∀ q ∈ cs, ∃ qs, OpRd w q qs) := hl.each
  have HAl : Hid (∀ w' : World, Calls Tryz.prog 8 #[] w' fun r w'' => r = .returned (.bool true) ∧ Below w'.heap.size w' w'') := fun w' => alive8 w'
  obtain ⟨n, hn⟩ : ∃ n, n = cs.length := ⟨_, rfl⟩
  have HN : Hid (n = cs.length) := hn
  rw [← hn] at hc1 HRow HLt ⊢
  generalize hdn : ds.length = dn at *
  clear hl hcap hn hdn
  go_enter Tryz.func3, Tryz.ntmps3
  go_upto_if 17 with (go_at_call 7; go_must (refine HLt.out.mono ?_; rintro r w1 ⟨rfl, hw1⟩; subst w1))
  cases b with
  | false =>
    go_wp2_with (go_at_call 8; go_must (refine (HAl.out w).mono ?_; rintro r w2 ⟨rfl, hb2⟩))
    go_ret
    exact ⟨rfl, hb2⟩
  | true =>
    obtain ⟨h50, h40, hfew⟩ := HB.out rfl
    have HFw : Hid (∀ q ∈ cs, fewO q) := hfew
    have hn40 : n ≤ 40 := by rw [HN.out]; exact h40
    have HNW2 := HNW.out h50
    clear h50 h40 hfew HNW HB
    go_upto_if 26 with (first
      | (go_at_call 9; go_must (refine HNW2.mono ?_; rintro r w2 ⟨wb, ob, rr, rb, mb, o2, sl2, tl2, rfl, hW2⟩))
      | (go_at_call 8; go_must (refine (HAl.out w2).mono ?_; rintro r w3 ⟨rfl, hb3⟩)))
    have HW3 : Hid (WG w w3 (newTo o2 w2 0) wb (gd0 ⟨ds, []⟩ ob rr rb mb) sl2 tl2) := (show WG _ _ _ _ _ _ _ from hW2.below hb3 0)
    have HI3 : Hid (Inv (gd0 ⟨ds, []⟩ ob rr rb mb) (8 + 100 * 0) (0 + 1)) := (show Inv _ _ _ from gd0_inv HDs.out ob rr rb mb)
    generalize gd0 ⟨ds, []⟩ ob rr rb mb = G3 at *
    generalize newTo o2 w2 0 = o3 at *
    clear hW2 hb3 HNW2 HLt HDs
    go_wp2
    go_loopw [8] (fun i wr => ∃ k : Nat, i = .int .i64 k ∧ k ≤ n ∧ ∃ (o4 : Nat → Nat) (G : Gd) (sl tl : Value), Hid (WG w wr o4 wb G sl tl) ∧ Hid (Inv G (8 + 100 * k) (k + 1))) (fun i _ => n - (intOf i).toNat)
    case atStart => exact ⟨0, rfl, by omega, o3, G3, sl2, tl2, HW3.out, HI3.out⟩
    case round =>
      obtain ⟨k, rfl, hk, o4, G, sl, tl, HW4, HI4⟩ := hrel
      by_cases hkn : k < n
      · obtain ⟨q, hq⟩ : ∃ q, cs[k]? = some q := ⟨_, List.getElem?_eq_getElem (by have := HN.out; omega)⟩
        have hrw := HRow.out.below HW4.out.bel
        obtain ⟨g, off, ea, hr⟩ := hrw.at oqf_len hq
        subst ea
        obtain ⟨qs, hC⟩ := HE.out q (List.mem_of_getElem? hq)
        have HDo : Hid (Calls Tryz.prog 10 #[ptr wb, opv q.1 q.2.1 q.2.2] wr (StPost w wr o4 wb k)) := do_step HW4.out HI4.out (by omega) hC (HFw.out q (List.mem_of_getElem? hq))
        have e0 := hr 0 _ rfl; rw [Nat.add_zero] at e0; have e1 := hr 1 _ rfl; have e2 := hr 2 _ rfl; have e3 := hr 3 _ rfl; have e4 := hr 4 _ rfl
        obtain ⟨xa, pa, ha⟩ := hC.cg.row.len
        obtain ⟨xb, pb, hb⟩ := hC.cg.old.len
        rw [ha] at e3 HDo
        rw [hb] at e4 HDo
        dsimp only at e4 HDo
        unfold opv at HDo
        clear hr hC hrw ha hb hq
        go_upto_if 39 with (go_at_call 10; go_must (refine HDo.out.mono ?_; rintro r w5 ⟨rfl, o5, G5, sl5, tl5, hW5, hI5, _⟩))
        have HW5 : Hid (WG w w5 o5 wb G5 sl5 tl5) := hW5
        have HI5 : Hid (Inv G5 (8 + 100 * (k + 1)) (k + 2)) := hI5
        clear hW5 hI5 HDo e0 e1 e2 e3 e4 HW4 HI4
        go_wp2
        have hw9 : Hid (w5 = w5) := (show w5 = w5 from rfl)
        go_loopw [9] (fun i2 wr2 => ∃ j : Nat, i2 = .int .i64 j ∧ j ≤ 4 ∧ Hid (WG w wr2 o5 wb G5 sl5 tl5)) (fun i2 _ => 4 - (intOf i2).toNat)
        case atStart => exact ⟨0, rfl, by omega, HW5.out⟩
        case round =>
          obtain ⟨j, rfl, hj, HW6⟩ := hrel
          by_cases hj4 : j < 4
          · have y1 := HW6.out.blk.cell _ _ (wcs_r G5 sl5 tl5 hj4)
            have y2 := HW6.out.blk.cell _ _ (wcs_m G5 sl5 tl5 hj4)
            have HKa : Hid (∀ w', w' = wr → Calls Tryz.prog 11 #[ptr (G5.rb j), .int .i64 e] w' fun x w'' => x = .returned (.tuple #[.int .u64 (keyM (G5.P j).ks e).1, .int .i64 (keyM (G5.P j).ks e).2]) ∧ w'' = w') := fun w' h => by subst h; exact key11 (HW6.out.rings j hj4) e
            have HKb : Hid (∀ w', w' = wr → Calls Tryz.prog 12 #[ptr (G5.mb j), .int .i64 e] w' fun x w'' => x = .returned (.tuple #[.int .u64 (keyM (G5.P j).ks e).1, .int .i64 (keyM (G5.P j).ks e).2]) ∧ w'' = w') := fun w' h => by
              subst h
              rw [(HI5.out.rel j hj4).ks]
              exact rkey12 (HW6.out.models j hj4) e
            have HCn : Hid (∀ w' n, w' = wr → Calls Tryz.prog 13 #[ptr (G5.rb j)] (w'.drewN n) fun x w'' => x = .returned (.int .i64 ((G5.P j).ks.length : Int)) ∧ ∃ m, w'' = w'.drewN m) := fun w' n h => by
              subst h
              refine (count13 ((HW6.out.rings j hj4).mv (mv_drewN [] _ _ n) (by simp) (by simp))).mono ?_
              rintro x w'' ⟨rfl, rfl⟩
              exact ⟨rfl, n, rfl⟩
            have HWh : Hid (∀ w' n, w' = wr → Calls Tryz.prog 14 #[ptr (G5.rb j)] (w'.drewN n) fun x w'' => x = .returned (.int .i64 (j : Int)) ∧ ∃ m, w'' = w'.drewN m) := fun w' n h => by
              subst h
              have h1 := who14 ((HW6.out.rings j hj4).mv (mv_drewN [] _ _ n) (by simp) (by simp))
              rw [HI5.out.who j hj4] at h1
              refine h1.mono ?_
              rintro x w'' ⟨rfl, rfl⟩
              exact ⟨rfl, n, rfl⟩
            obtain ⟨ka, kc, y3, hk20⟩ := (HW6.out.models j hj4).keys
            rw [← (HI5.out.rel j hj4).ks] at y3 hk20
            generalize (keyM (G5.P j).ks e).1 = ky at *
            generalize (keyM (G5.P j).ks e).2 = kk at *
            generalize (G5.P j).ks.length = kl at *
            have n1 : (ky != ky) = false := by simp
            have n2 : (kk != kk) = false := by simp
            go_upto_region 16 with (first
              | (go_at_call 11; go_must (refine (HKa.out wr rfl).mono ?_; rintro r w7 ⟨rfl, rfl⟩))
              | (go_at_call 12; go_must (refine (HKb.out w7 rfl).mono ?_; rintro r w8 ⟨rfl, rfl⟩)))
            go_quiet (first
              | (go_at_call 13; go_must (exact HCn.out _ _ rfl))
              | (go_at_call 14; go_must (exact HWh.out _ _ rfl)))
            have HW7 : Hid (∀ n, WG w (w8.drewN n) o5 wb G5 sl5 tl5) := fun n => HW6.out.mv (mv_drewN [] _ _ n) (by simp)
            go_wp2
            go_roundw
            case rel => exact ⟨j + 1, by go_num, by omega, HW7.out _⟩
            case measure => simp [intOf]; omega
          · go_wp2
            go_roundw
            case rel => exact ⟨k + 1, by go_num, by omega, o5, G5, sl5, tl5, HW6.out, HI5.out⟩
            case measure => simp [intOf]; omega
      · go_wp2
        go_ret
        exact ⟨rfl, HW4.out.bel⟩
end Go.Proofs.YtkoeocghoabmbaaGreat
