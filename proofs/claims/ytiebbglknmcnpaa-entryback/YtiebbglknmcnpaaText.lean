/-
  The text of an entry, put into a writer of fields.
-/
import Derived.Test.YtiebbglknmcnpaaBound
import Derived.Test.YtiebbglknmcnpaaChain
import Derived.Deep.RegionWith
import Derived.Deep.DeepCutAuto
namespace Go.Proofs.Ytiebbglknmcnpaa
set_option linter.unusedVariables false
set_option linter.unusedSimpArgs false
set_option synthInstance.maxSize 20000
set_option maxHeartbeats 2000000
set_option maxRecDepth 20000
open Go.RowKit Go.Maps

theorem Fld.drew {w : World} {b : Nat} {l : List Int} (h : Fld w b l) : Fld w.drew b l := h
theorem grown_undrew {w w' : World} {r : Option Nat} (h : w.drew.grownBy w' r) : w.grownBy w' r := ⟨h.os, h.tape, h.output, h.size, h.block⟩

theorem textE_any (w : World) (b : Nat) (l : List Int) (e : Ent) (v : Value) (h : Fld w b l) (hl : l.length ≤ 10000) (he : EOk e) (hv : Rd w v e.b) (hb : e.b.length ≤ 1000000) :
    Calls Try.prog 38 #[ptr b, ev e v] w fun r w' => r = .returned (.tuple #[]) ∧ Fld w' b (l ++ textL e) ∧ w.grownBy w' (some b) := by
  have HV : Hid (Rd w v e.b) := hv
  have hlt := h.lt
  obtain ⟨a, cap, rfl⟩ := hv.len
  obtain ⟨ew, ei, ep, et, eu, en, eb, eg⟩ := e
  obtain ⟨h1, h2, h3, h4, h5, h6, h7, h8⟩ := he
  dsimp only at *
  have HS : Hid (SOk (et, eu)) := ⟨h4, h5⟩
  have HE : Hid (I64 en) := h6
  have C1 := fun w => count_any ew w h1
  have C2 := fun w => count_any ei w h2
  have hNX : ew.toNat < 18446744073709551616 := by have := h1.2; omega
  have hNY : ei.toNat < 18446744073709551616 := by have := h2.2; omega
  have hNZ : ep.toNat < 18446744073709551616 := by have := h3.2; omega
  have hZ : ((ep.toNat : Nat) : Int) = ep := by have := h3.1; omega
  have HL : Hid (textL ⟨ew, ei, ep, et, eu, en, eb, eg⟩ = form ew.toNat ++ form ei.toNat ++ form ep.toNat ++ putS (et, eu) ++ form (zig en) ++ form eb.length ++ eb) := rfl
  obtain ⟨NX, eX⟩ : ∃ NX : Nat, ew.toNat = NX := ⟨_, rfl⟩
  obtain ⟨NY, eY⟩ : ∃ NY : Nat, ei.toNat = NY := ⟨_, rfl⟩
  obtain ⟨NZ, eZ⟩ : ∃ NZ : Nat, ep.toNat = NZ := ⟨_, rfl⟩
  rw [eX] at C1 hNX HL
  rw [eY] at C2 hNY HL
  rw [eZ] at hNZ HL hZ
  subst hZ
  have HC1 : Hid (∀ w, Calls Try.prog 59 #[.int .i64 ew] w fun e w' => e = .returned (.int .u64 (NX : Int)) ∧ w' = w) := C1
  have HC2 : Hid (∀ w, Calls Try.prog 59 #[.int .i64 ei] w fun e w' => e = .returned (.int .u64 (NY : Int)) ∧ w' = w) := C2
  have HU : Hid (∀ z ∈ [(NX : Int), (NY : Int), (NZ : Int)], U64 z) := fun z hz => by
    simp at hz
    rcases hz with rfl | rfl | rfl <;> exact u64_nat _ (by assumption)
  have HFL : Hid (formsL [(NX : Int), (NY : Int), (NZ : Int)] = form NX ++ form NY ++ form NZ) := by show _ = _; unfold formsL; simp
  have HLen : Hid ((form NX ++ form NY ++ form NZ).length ≤ 30) := by
    show _ ≤ _
    have h1 := form_le10 hNX
    have h2 := form_le10 hNY
    have h3 := form_le10 hNZ
    simp only [List.length_append]; omega
  have HPL : Hid ((putS (et, eu)).length ≤ 20) := putS_len (et, eu) ⟨h4, h5⟩
  have HZL : Hid ((form (zig en)).length ≤ 10) := form_le10 (zig_lt en h6)
  have hmf : ∀ (fn : Fn) (first cap : Array Value) (w : World), (Instr.makeFunc fn first cap).run Try.prog w = .ok (.func fn first cap) w := fun _ _ _ _ => rfl
  obtain ⟨w1, hw1⟩ : ∃ w1, w1 = w.alloc (.cells #[.int .i64 ew, .int .i64 ei, .int .u64 (NZ : Int), .int .i64 et, .int .i64 eu, .int .i64 en, .slice a eb.length cap, .int .u64 eg] 28) := ⟨_, rfl⟩
  have X1 : Blk w1 w.heap.size 28 [.int .i64 ew, .int .i64 ei, .int .u64 (NZ : Int), .int .i64 et, .int .i64 eu, .int .i64 en, .slice a eb.length cap, .int .u64 eg] := by rw [hw1]; exact blk_new w [.int .i64 ew, .int .i64 ei, .int .u64 (NZ : Int), .int .i64 et, .int .i64 eu, .int .i64 en, .slice a eb.length cap, .int .u64 eg] 28
  have HB1 : Hid (Below w.heap.size w w1) := by show Below _ _ _; rw [hw1]; exact balloc (Below.refl _ _) _
  have HF1 : Hid (Fld w1 b l) := h.below HB1.out
  clear C1 C2 eX eY eZ h h1 h2 h3 h4 h5 h6 h7 h8 hv hNX hNY hNZ
  unfold ev
  dsimp only
  go_enter Try.func38, Try.ntmps38
  go_upto_region 2 with fail
  rw [← hw1]
  obtain ⟨nb, hnb⟩ : ∃ nb, nb = w.heap.size := ⟨_, rfl⟩
  rw [← hnb] at X1 hlt ⊢
  have HNB : Hid (nb = w.heap.size) := hnb
  clear hw1 hnb
  go_cut [18] (fun p wx => Hid (Fld wx b (l ++ (form NX ++ form NY ++ form NZ))) ∧ Hid (w1.grownBy wx (some b)))
  case first =>
   have HX1 : Hid (Blk w1 nb 28 [.int .i64 ew, .int .i64 ei, .int .u64 (NZ : Int), .int .i64 et, .int .i64 eu, .int .i64 en, .slice a eb.length cap, .int .u64 eg]) := X1
   have q0 := fun z : WIn (fun w' => w1.grownBy w' (some b)) => (X1.block (z.ok.block nb X1.lt (fun e => by have := Option.some.inj e; omega))).cell 0 _ rfl
   have q1 := fun z : WIn (fun w' => w1.grownBy w' (some b)) => (X1.block (z.ok.block nb X1.lt (fun e => by have := Option.some.inj e; omega))).cell 1 _ rfl
   have q2 := fun z : WIn (fun w' => w1.grownBy w' (some b)) => (X1.block (z.ok.block nb X1.lt (fun e => by have := Option.some.inj e; omega))).cell 2 _ rfl
   have ne : Nonempty (WIn (fun w' => w1.grownBy w' (some b))) := ⟨⟨w1, grown_refl _ _⟩⟩
   refine wp_region_tree (C := fun w' => ∃ z : WIn (fun w' => w1.grownBy w' (some b)), w' = z.w)
     (.still 0 (.still 1 (.still 2 (.still 4 (.still 5 (.still 7 (.still 8 (.two 3 (.one 6 (.one 9 (.one 10 .done))) 6 (.one 3 (.one 9 (.one 10 .done)))))))))))
     (by kernel_rfl) (by kernel_rfl) ⟨⟨w1.drew, grown_drew (grown_refl _ _)⟩, rfl⟩ ?_
   iterate 7 (refine tree_still rfl rfl ?_; go_big_quiet_step (fail); refine wpQuiet_nil ?_)
   clear q0 q1 q2 ne X1
   have HRU : Hid (RdU (w1.drew.alloc (.cells #[.int .u64 (NX : Int), .int .u64 (NY : Int), .int .u64 (NZ : Int)] 23)) (.slice (some ⟨w1.heap.size, 0, none⟩) 3 3) [(NX : Int), (NY : Int), (NZ : Int)]) := rdU_row w1.drew [(NX : Int), (NY : Int), (NZ : Int)] 23 (0, 0) HU.out (by unfold maxLen; simp)
   have HG9 : Hid (w1.grownBy (w1.drew.alloc (.cells #[.int .u64 (NX : Int), .int .u64 (NY : Int), .int .u64 (NZ : Int)] 23)) (some b)) := (show w1.grownBy _ (some b) from grown_undrew (World.grownBy_alloc w1.drew _ (some b)))
   have HN : Hid (∀ w', w' = w1.drew.alloc (.cells #[.int .u64 (NX : Int), .int .u64 (NY : Int), .int .u64 (NZ : Int)] 23) → Calls Try.prog 39 #[ptr b, .slice (some ⟨w1.heap.size, 0, none⟩) 3 3] w' fun e w'' => e = .returned (.tuple #[]) ∧ Fld w'' b (l ++ (form NX ++ form NY ++ form NZ)) ∧ w1.grownBy w'' (some b)) := fun w' hw' => by
     subst hw'
     refine (nums_any _ b l _ [(NX : Int), (NY : Int), (NZ : Int)] (HF1.out.drew.below (balloc (Below.refl _ _) _)) HRU.out (by omega) (by simp) (out_new (w := w1) (by have := HF1.out.lt; omega))).mono ?_
     rw [HFL.out]
     rintro e w2 ⟨rfl, hf2, hg2⟩
     exact ⟨rfl, hf2, grown_none (grown_undrew (World.grownBy_alloc w1.drew _ none)) hg2⟩
   have G0 : Hid (w1.grownBy w1.drew (some b)) := grown_drew (grown_refl _ _)
   refine tree_two rfl rfl rfl rfl ?_ ?_
   all_goals
     go_simp
     first
       | (refine (HC1.out _).mono ?_; rintro e wx ⟨rfl, hx⟩; replace hx := hx.symm; subst hx; refine ⟨⟨⟨_, G0.out⟩, rfl⟩, ?_⟩; refine tree_one rfl rfl ?_; go_simp; refine (HC2.out _).mono ?_; rintro e wx ⟨rfl, hx⟩; replace hx := hx.symm; subst hx; refine ⟨⟨⟨_, G0.out⟩, rfl⟩, ?_⟩)
       | (refine (HC2.out _).mono ?_; rintro e wx ⟨rfl, hx⟩; replace hx := hx.symm; subst hx; refine ⟨⟨⟨_, G0.out⟩, rfl⟩, ?_⟩; refine tree_one rfl rfl ?_; go_simp; refine (HC1.out _).mono ?_; rintro e wx ⟨rfl, hx⟩; replace hx := hx.symm; subst hx; refine ⟨⟨⟨_, G0.out⟩, rfl⟩, ?_⟩)
     refine tree_one rfl rfl ?_
     go_simp
     refine ⟨⟨⟨_, HG9.out⟩, rfl⟩, ?_⟩
     refine tree_one rfl rfl ?_
     go_simp
     refine (HN.out _ rfl).mono ?_
     rintro e w2 ⟨rfl, hf2, hg2⟩
     have HF2 : Hid (Fld w2 b (l ++ (form NX ++ form NY ++ form NZ))) := hf2
     have HG2 : Hid (w1.grownBy w2 (some b)) := hg2
     clear hf2 hg2
     refine ⟨⟨⟨_, HG2.out⟩, rfl⟩, ?_⟩
     refine tree_done ?_
     go_wp2
     go_meet
     exact ⟨HF2, HG2⟩
  case rest =>
   obtain ⟨HF2, HG2⟩ := hcut
   rename World => w2
   have HX2 : Hid (Blk w2 nb 28 [.int .i64 ew, .int .i64 ei, .int .u64 (NZ : Int), .int .i64 et, .int .i64 eu, .int .i64 en, .slice a eb.length cap, .int .u64 eg]) := (show Blk _ _ _ _ from X1.block (HG2.out.block nb X1.lt (fun e => by have := Option.some.inj e; omega)))
   have HV2 : Hid (Rd w2 (.slice a eb.length cap) eb) := (show Rd _ _ _ from (HV.out.below HB1.out).pastF HF1.out HG2.out)
   have HLT : Hid (b < nb) := hlt
   generalize hL2 : l ++ (form NX ++ form NY ++ form NZ) = L2 at HF2
   have HLen2 : Hid (L2.length ≤ 10030) := by show _ ≤ _; have := HLen.out; rw [← hL2, List.length_append]; omega
   have HL2 : Hid (l ++ (form NX ++ form NY ++ form NZ) = L2) := hL2
   clear X1 HC1 HC2 HU HFL hlt hL2 HF1 hmf
   obtain ⟨v2, X3, own2, a2, c2, rfl⟩ := HF2.out.rd
   have x0 := X3.cell 0 _ rfl
   have q3 := HX2.out.cell 3 _ rfl
   have q4 := HX2.out.cell 4 _ rfl
   have HX3 : Hid (Blk w2 b 75 [.slice a2 L2.length c2]) := X3
   have HO2 : Hid (Own (b + 1) 5 w2 (.slice a2 L2.length c2) L2) := own2
   clear X3 own2
   go_upto_region 3 with fail
   go_cut [18] (fun p wx => Hid (Fld wx b (L2 ++ putS (et, eu))) ∧ Hid (w2.grownBy wx (some b)))
   case first =>
    go_region_with (go_at_call 60; go_must (refine (sput_any _ L2 (et, eu) w2.drew HO2.out.rd.drew (by have := HLen2.out; omega) HS.out).mono ?_; rintro e w3 ⟨v3, rfl, hown3, hb3⟩; obtain ⟨a3, c3, rfl⟩ := hown3.rd.len; rw [List.length_append] at hown3; have X4 := HX3.out.below (below_undrew hb3); have y0 := X4.cell 0 _ rfl; have f0 := X4.frozen 0))
    all_goals go_wp2_with fail
    all_goals go_meet
    all_goals
      have hp := HF2.out.put (below_undrew hb3) hown3
      exact ⟨hp.1, hp.2⟩
   case rest =>
    obtain ⟨HF3, HG3⟩ := hcut
    rename World => w3
    have HX4 : Hid (Blk w3 nb 28 [.int .i64 ew, .int .i64 ei, .int .u64 (NZ : Int), .int .i64 et, .int .i64 eu, .int .i64 en, .slice a eb.length cap, .int .u64 eg]) := (show Blk _ _ _ _ from HX2.out.block (HG3.out.block nb HX2.out.lt (fun e => by have := Option.some.inj e; have := HLT.out; omega)))
    have HV3 : Hid (Rd w3 (.slice a eb.length cap) eb) := (show Rd _ _ _ from HV2.out.pastF HF2.out HG3.out)
    have HLen3 : Hid ((L2 ++ putS (et, eu)).length ≤ 10050) := by show _ ≤ _; have := HLen2.out; have := HPL.out; rw [List.length_append]; omega
    have r5 := HX4.out.cell 5 _ rfl
    clear x0 q3 q4 HX2 HX3 HO2
    go_upto_region 5 with (go_at_call 61; go_must (refine (epoch_any w3 b _ en HF3.out (by have := HLen3.out; omega) HE.out).mono ?_; rintro e w4 ⟨rfl, hf4, hg4⟩))
    have HF4 : Hid (Fld w4 b (L2 ++ putS (et, eu) ++ form (zig en))) := hf4
    have HG4 : Hid (w3.grownBy w4 (some b)) := hg4
    have HX5 : Hid (Blk w4 nb 28 [.int .i64 ew, .int .i64 ei, .int .u64 (NZ : Int), .int .i64 et, .int .i64 eu, .int .i64 en, .slice a eb.length cap, .int .u64 eg]) := (show Blk _ _ _ _ from HX4.out.block (hg4.block nb HX4.out.lt (fun e => by have := Option.some.inj e; have := HLT.out; omega)))
    have HV4 : Hid (Rd w4 (.slice a eb.length cap) eb) := (show Rd _ _ _ from HV3.out.pastF HF3.out hg4)
    clear hf4 hg4
    generalize hL4 : L2 ++ putS (et, eu) ++ form (zig en) = L4 at HF4
    have HL4 : Hid (L2 ++ putS (et, eu) ++ form (zig en) = L4) := hL4
    have HLen4 : Hid (L4.length ≤ 10060) := by show _ ≤ _; have := HLen3.out; have := HZL.out; rw [← hL4, List.length_append]; omega
    obtain ⟨v5, X5, own5, a5, c5, rfl⟩ := HF4.out.rd
    have x0 := X5.cell 0 _ rfl
    have q6 := HX5.out.cell 6 _ rfl
    have HX6 : Hid (Blk w4 b 75 [.slice a5 L4.length c5]) := X5
    have HO4 : Hid (Own (b + 1) 5 w4 (.slice a5 L4.length c5) L4) := own5
    clear X5 own5 hL4 r5
    go_region_with (go_at_call 62; go_must (refine (bytes_any _ _ L4 eb w4.drew HO4.out.rd.drew HV4.out.drew (by have := HLen4.out; omega) (by omega)).mono ?_; rintro e w5 ⟨v5, rfl, hown5, hb5⟩; obtain ⟨a6, c6, rfl⟩ := hown5.rd.len; rw [List.length_append, List.length_append, Nat.add_assoc] at hown5; have X7 := HX6.out.below (below_undrew hb5); have y0 := X7.cell 0 _ rfl; have f0 := X7.frozen 0))
    all_goals go_wp2_with fail
    all_goals go_end0
    all_goals
      have hp := HF4.out.put (below_undrew hb5) hown5
      refine ⟨rfl, ?_, grown_trans (grown_trans (grown_trans (grown_none (below_grown HB1.out) HG2.out) HG3.out (fun k hk => .inl hk)) HG4.out (fun k hk => .inl hk)) hp.2 (fun k hk => .inl hk)⟩
      rw [HL.out]
      have e : l ++ (form NX ++ form NY ++ form NZ ++ putS (et, eu) ++ form (zig en) ++ form eb.length ++ eb) = L4 ++ form eb.length ++ eb := by
        rw [← HL4.out, ← HL2.out]
        simp only [List.append_assoc]
      rw [e]
      exact hp.1
end Go.Proofs.Ytiebbglknmcnpaa
