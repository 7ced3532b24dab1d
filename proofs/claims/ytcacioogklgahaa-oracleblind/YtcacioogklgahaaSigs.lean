/-
  The text of a signature, and the handle of a text.
-/
import Derived.Test.YtcacioogklgahaaFind
namespace Go.Proofs.Ytcacioogklgahaa
set_option linter.unusedVariables false
set_option synthInstance.maxSize 20000
open Classical
open Go.RowKit Go.Maps

theorem Rd.drew {w : World} {v : Value} {l : List Int} (h : Rd w v l) : Rd w.drew v l := h
theorem MapF.alloc' {P : Program} {k : TypeId} {w : World} {b n : Nat} {f : Lit → Option Value} (h : MapF P k w b n f) (o : Obj) : MapF P k (w.alloc o) b n f := h.block ((MapKept.heap_alloc w o).2 b h.lt)
theorem undrew {B : Nat} {w w' : World} (h : Below B w.drew w') : Below B w w' := ⟨h.os, h.tape, h.output, h.size, h.block⟩
theorem Turn.undrew {ft : List Nat} {w w' : World} (h : Turn ft w.drew w') : Turn ft w w' := ⟨h.os, h.tape, h.output, h.size, h.block⟩
theorem toStr (w : World) (v : Value) (l : List Int) (hv : Rd w v l) : (convert 38 9 v).run Try.prog w = .ok (.string (strOfNums l)) w :=
  run_convert_rd w 38 9 5 (by kernel_rfl) (by kernel_rfl) (by kernel_rfl) v l hv
theorem str_append (a b : List Int) : strOfNums a ++ strOfNums b = strOfNums (a ++ b) := by
  apply ByteArray.ext
  apply Array.ext'
  rw [ByteArray.data_append, Array.toList_append, strOfNums_data, strOfNums_data, strOfNums_data, List.map_append]

set_option maxHeartbeats 1000000 in
set_option maxRecDepth 20000 in
theorem bySecret_any (s : Int) (v : Value) (l : List Int) (w : World) (hs : U64 s) (hv : Rd w v l) (hlen : l.length ≤ 1000000) :
    Calls Try.prog 49 #[.int .u64 s, v] w fun e w' => e = .returned (.string (strOfNums (be8 s ++ l))) ∧ Below w.heap.size w w' := by
  have q1 := toStr w.drew v l hv.drew
  have q2 := toStr w.drew.drew v l hv.drew.drew
  have hsz1 : (strOfNums l).size = l.length := by rw [← sb_length, sb_strOfNums l hv.oct]
  have hsz2 : (strOfNums (be8 s)).size = 8 := by rw [← sb_length, sb_strOfNums _ (be8_oct s)]; rfl
  have hsz : (strOfNums (be8 s)).size + (strOfNums l).size ≤ 9223372036854775807 := by omega
  have HV : Hid (Rd w v l) := hv
  have hb0 : boxOf s 0 = be8 s := by unfold boxOf; simp
  have HB : Hid (boxOf s 0 = be8 s) := hb0
  clear hv hb0
  go_enter Try.func49, Try.ntmps49
  go_wp2
  go_region_with (go_at_call 45; (refine (form_any s 0 _ hs (by omega)).mono ?_; rintro e w1 ⟨v1, rfl, hown, hb1⟩; rw [HB.out] at hown; have q3 := toStr w1 v1 (be8 s) hown.rd; have q4 := toStr w1 v l (HV.out.drew.below hb1); have q5 := toStr w1.drew v1 (be8 s) hown.rd.drew; have q6 := toStr w1.drew v l (HV.out.drew.below hb1).drew))
  all_goals go_wp2
  all_goals go_ret
  all_goals
    refine ⟨?_, by first | exact undrew hb1 | exact (undrew hb1).drew⟩
    rw [← str_append]
    rfl

theorem IsO.handle_h {w w' : World} {b b1 b2 b3 n : Nat} {ft : List Nat} {T : Tab} {dv : Value} {l : List Int} (h : IsO w b ft T dv (.map (some b1)) (.map (some b2)) (.map (some b3))) (ho : Oct l) (hg : w.grownBy w' (some b2)) (hn : n + 1 ≤ T.us.length) {g : Int}
    (hm : MapF Try.prog 9 w' b2 (if (litS T.hashes (.string (strOfNums l).data.toList)).isSome then n else n + 1) (upd (litS T.hashes) (.string (strOfNums l).data.toList) (markVal g))) :
    IsO w' b ft { T with hashes := fun x => if x = l then some g else T.hashes x } dv (.map (some b1)) (.map (some b2)) (.map (some b3)) := by
  rw [litS_upd _ _ ho] at hm
  exact h.putHashes hg hm (by split <;> omega)
theorem IsO.handle_s {w w' : World} {b b1 b2 b3 n : Nat} {ft : List Nat} {T : Tab} {dv : Value} {l : List Int} (h : IsO w b ft T dv (.map (some b1)) (.map (some b2)) (.map (some b3))) (ho : Oct l) (hg : w.grownBy w' (some b3)) (hn : n + 1 ≤ T.us.length) {g : Int}
    (hm : MapF Try.prog 9 w' b3 (if (litS T.signed (.string (strOfNums l).data.toList)).isSome then n else n + 1) (upd (litS T.signed) (.string (strOfNums l).data.toList) (markVal g))) :
    IsO w' b ft { T with signed := fun x => if x = l then some g else T.signed x } dv (.map (some b1)) (.map (some b2)) (.map (some b3)) := by
  rw [litS_upd _ _ ho] at hm
  exact h.putSigned hg hm (by split <;> omega)

/-- The state behind a hash that is new. -/
def Tab.hashed (T : Tab) (n : Nat) (l : List Int) : Tab := { T.named n with hashes := fun x => if x = l then some (freshOf T.us T.draws).1 else T.hashes x }
def Tab.signs (T : Tab) (n : Nat) (l : List Int) : Tab := { T.named n with signed := fun x => if x = l then some (freshOf T.us T.draws).1 else T.signed x }

theorem IsO.map2 {w : World} {b b1 b2 b3 : Nat} {ft : List Nat} {T : Tab} {dv : Value} (h : IsO w b ft T dv (.map (some b1)) (.map (some b2)) (.map (some b3))) : b2 ∈ ft ∧ b2 ≠ b ∧ b2 ≠ b1 ∧ ∃ n, n ≤ T.us.length ∧ MapF Try.prog 9 w b2 n (litS T.hashes) := by
  rcases h.maps with ⟨e, _⟩ | ⟨b1, b2, b3, n2, n3, e1, e2, e3, n12, n13, n23, f1, f2, f3, l2, l3, g1, g2, g3⟩
  · cases e
  · cases e1; cases e2; cases e3
    exact ⟨f2, h.ne g2, n12.symm, n2, l2, g2⟩
theorem IsO.map3 {w : World} {b b1 b2 b3 : Nat} {ft : List Nat} {T : Tab} {dv : Value} (h : IsO w b ft T dv (.map (some b1)) (.map (some b2)) (.map (some b3))) : b3 ∈ ft ∧ b3 ≠ b ∧ b3 ≠ b1 ∧ ∃ n, n ≤ T.us.length ∧ MapF Try.prog 9 w b3 n (litS T.signed) := by
  rcases h.maps with ⟨e, _⟩ | ⟨b1, b2, b3, n2, n3, e1, e2, e3, n12, n13, n23, f1, f2, f3, l2, l3, g1, g2, g3⟩
  · cases e
  · cases e1; cases e2; cases e3
    exact ⟨f3, h.ne g3, n13.symm, n3, l3, g3⟩

set_option maxHeartbeats 1000000 in
set_option maxRecDepth 20000 in
theorem handleOf_h (w : World) (b : Nat) (ft : List Nat) (T : Tab) (dv : Value) (b1 b2 b3 : Nat) (h : IsO w b ft T dv (.map (some b1)) (.map (some b2)) (.map (some b3))) (hf : T.full) (hN : T.us.length + 1 < 1000000000) (l : List Int) (ho : Oct l) (hl : l.length ≤ 1000000) (hnew : T.hashes l = none) :
    Calls Try.prog 40 #[.map (some b2), .string (strOfNums l), .func (.func 41) #[ptr b] #[]] w fun e w' => e = .returned (.int .u64 (freshOf T.us T.draws).1) ∧
      (∃ dv' n, IsO w' b ft (T.hashed n l) dv' (.map (some b1)) (.map (some b2)) (.map (some b3)) ∧ (T.hashed n l).full) ∧ Turn ft w w' := by
  have H : Hid (IsO w b ft T dv (.map (some b1)) (.map (some b2)) (.map (some b3))) := h
  obtain ⟨hb2, hn0, hn1, n2, hle, g2⟩ := h.map2
  have hlt1 := h.room b1 h.m1.1
  have hlt2 := h.room b2 hb2
  have hlt := h.room b h.foot
  have hkey := key9 ho (by unfold maxLen; omega)
  have hlk := g2.look_ok (t := 62) (e := 83) law9 (by kernel_rfl) (zero83 w) hkey
  rw [litS_at _ _ ho, hnew, getD_mark] at hlk
  simp only [Option.getD, Option.isSome_map, Option.isSome_none, markVal] at hlk
  have HB2 : Hid (b1 ∈ ft ∧ b2 ∈ ft) := ⟨h.m1.1, hb2⟩
  have G0 : Hid (MapF Try.prog 9 w b2 n2 (litS T.hashes)) := g2
  have HKEY : Hid (keyOf Try.prog 9 (.string (strOfNums l)) = some (.string (strOfNums l).data.toList)) := hkey
  clear h g2 hkey hb2
  generalize hfr : (freshOf T.us T.draws).1 = fr
  have HFR : Hid ((freshOf T.us T.draws).1 = fr) := hfr
  clear hfr
  go_enter Try.func40, Try.ntmps40
  go_wp2_with (first
    | (go_at_call 41; go_must (refine (fresh_any _ b ft T dv b1 b2 b3 (H.out.below ((Below.refl _ _).alloc (Nat.le_refl _) (.cells #[.int .u64 0] 83))) hf hN).mono ?_; rintro e w2 ⟨rfl, ⟨dv2, n2', h2, hf2⟩, ht2⟩; rw [HFR.out]; have X : Blk w2 w.heap.size 83 [.int .u64 0] := (show Blk (w.alloc (.cells #[.int .u64 0] 83)) w.heap.size 83 [.int .u64 0] from heap_alloc_new w _).block (ht2.block w.heap.size (by simp) (by simp; omega)); have j0 := X.cell 0 _ rfl; have i0 := X.frozen 0; have HX : Hid (Blk w2 w.heap.size 83 [.int .u64 0]) := X; clear X; have H2 : Hid (IsO w2 b ft (T.named n2') dv2 (.map (some b1)) (.map (some b2)) (.map (some b3))) := h2; clear h2; have G2 : Hid (MapF Try.prog 9 w2 b2 n2 (litS T.hashes)) := (G0.out.alloc' (.cells #[.int .u64 0] 83)).block (ht2.block b2 (by simp; omega) (by simp; omega)); have HT2 : Hid (Turn [b, b1] _ w2) := ht2; clear ht2))
    | (refine wpList_store rfl _ _ _ 62 rfl 83 law9 (by kernel_rfl) (G2.out.block (Below.heap_setCell w2 ⟨w.heap.size, 0, none⟩ _ b2 (by simp; omega))) (by unfold maxLen; omega) rfl _ (markVal fr) _ rfl rfl HKEY.out ?_; intro w4 hm4 hg4; have X4 := (HX.out.set 0 (.int .u64 fr)).block (hg4.block w.heap.size (by have := HX.out.lt; simpa using this) (by simp; omega)); have k0 := X4.cell 0 _ rfl; clear X4))
  go_ret
  have hroom : ∀ k ∈ ft, k ∉ [w.heap.size] := fun k hk => by simp; have := H.out.room k hk; omega
  have h3 := H2.out.turn (Turn.of_grown (ft := [w.heap.size]) (grown_setCell w2 w.heap.size 0 (.int .u64 fr)) (by simp)) hroom
  have r := h3.handle_h ho hg4 (n := n2) (by simp [Tab.named]; omega) hm4
  rw [← HFR.out] at r
  refine ⟨rfl, ⟨dv2, n2', r, hf2⟩, ?_⟩
  have t1 := HT2.out.widen (ft' := ft) (fun k hk => by simp at hk; rcases hk with rfl | rfl; exact H.out.foot; exact HB2.out.1)
  have t2 : Turn ft w w2 := ((Turn.refl ft w).alloc _).same t1
  have t3 := t2.trans (Turn.of_grown (ft := [w.heap.size]) (grown_setCell w2 w.heap.size 0 (.int .u64 fr)) (by simp)) (fun k hk => .inr (by simp at hk; omega))
  exact t3.same (Turn.of_grown hg4 HB2.out.2)

set_option maxHeartbeats 1000000 in
set_option maxRecDepth 20000 in
theorem handleOf_h0 (w : World) (b : Nat) (ft : List Nat) (T : Tab) (dv : Value) (b1 b2 b3 : Nat) (h : IsO w b ft T dv (.map (some b1)) (.map (some b2)) (.map (some b3))) (l : List Int) (ho : Oct l) (hl : l.length ≤ 1000000) (g : Int) (hold : T.hashes l = some g) (f : Value) :
    Calls Try.prog 40 #[.map (some b2), .string (strOfNums l), f] w fun e w' => e = .returned (.int .u64 g) ∧ Below w.heap.size w w' := by
  obtain ⟨hb2, hn0, hn1, n2, hle, g2⟩ := h.map2
  have hlk := g2.look_ok (t := 62) (e := 83) law9 (by kernel_rfl) (zero83 w) (key9 ho (by unfold maxLen; omega))
  rw [litS_at _ _ ho, hold, getD_mark] at hlk
  simp only [Option.getD, Option.isSome_map, Option.isSome_some, markVal] at hlk
  clear h g2
  go_enter Try.func40, Try.ntmps40
  go_wp2
  go_ret
  exact ⟨rfl, balloc (Below.refl _ w) _⟩

set_option maxHeartbeats 1000000 in
set_option maxRecDepth 20000 in
theorem handleOf_s (w : World) (b : Nat) (ft : List Nat) (T : Tab) (dv : Value) (b1 b2 b3 : Nat) (h : IsO w b ft T dv (.map (some b1)) (.map (some b2)) (.map (some b3))) (hf : T.full) (hN : T.us.length + 1 < 1000000000) (l : List Int) (ho : Oct l) (hl : l.length ≤ 1000000) (hnew : T.signed l = none) :
    Calls Try.prog 40 #[.map (some b3), .string (strOfNums l), .func (.func 41) #[ptr b] #[]] w fun e w' => e = .returned (.int .u64 (freshOf T.us T.draws).1) ∧
      (∃ dv' n, IsO w' b ft (T.signs n l) dv' (.map (some b1)) (.map (some b2)) (.map (some b3)) ∧ (T.signs n l).full) ∧ Turn ft w w' := by
  have H : Hid (IsO w b ft T dv (.map (some b1)) (.map (some b2)) (.map (some b3))) := h
  obtain ⟨hb2, hn0, hn1, n2, hle, g2⟩ := h.map3
  have hlt1 := h.room b1 h.m1.1
  have hlt2 := h.room b3 hb2
  have hlt := h.room b h.foot
  have hkey := key9 ho (by unfold maxLen; omega)
  have hlk := g2.look_ok (t := 62) (e := 83) law9 (by kernel_rfl) (zero83 w) hkey
  rw [litS_at _ _ ho, hnew, getD_mark] at hlk
  simp only [Option.getD, Option.isSome_map, Option.isSome_none, markVal] at hlk
  have HB2 : Hid (b1 ∈ ft ∧ b3 ∈ ft) := ⟨h.m1.1, hb2⟩
  have G0 : Hid (MapF Try.prog 9 w b3 n2 (litS T.signed)) := g2
  have HKEY : Hid (keyOf Try.prog 9 (.string (strOfNums l)) = some (.string (strOfNums l).data.toList)) := hkey
  clear h g2 hkey hb2
  generalize hfr : (freshOf T.us T.draws).1 = fr
  have HFR : Hid ((freshOf T.us T.draws).1 = fr) := hfr
  clear hfr
  go_enter Try.func40, Try.ntmps40
  go_wp2_with (first
    | (go_at_call 41; go_must (refine (fresh_any _ b ft T dv b1 b2 b3 (H.out.below ((Below.refl _ _).alloc (Nat.le_refl _) (.cells #[.int .u64 0] 83))) hf hN).mono ?_; rintro e w2 ⟨rfl, ⟨dv2, n2', h2, hf2⟩, ht2⟩; rw [HFR.out]; have X : Blk w2 w.heap.size 83 [.int .u64 0] := (show Blk (w.alloc (.cells #[.int .u64 0] 83)) w.heap.size 83 [.int .u64 0] from heap_alloc_new w _).block (ht2.block w.heap.size (by simp) (by simp; omega)); have j0 := X.cell 0 _ rfl; have i0 := X.frozen 0; have HX : Hid (Blk w2 w.heap.size 83 [.int .u64 0]) := X; clear X; have H2 : Hid (IsO w2 b ft (T.named n2') dv2 (.map (some b1)) (.map (some b2)) (.map (some b3))) := h2; clear h2; have G2 : Hid (MapF Try.prog 9 w2 b3 n2 (litS T.signed)) := (G0.out.alloc' (.cells #[.int .u64 0] 83)).block (ht2.block b3 (by simp; omega) (by simp; omega)); have HT2 : Hid (Turn [b, b1] _ w2) := ht2; clear ht2))
    | (refine wpList_store rfl _ _ _ 62 rfl 83 law9 (by kernel_rfl) (G2.out.block (Below.heap_setCell w2 ⟨w.heap.size, 0, none⟩ _ b3 (by simp; omega))) (by unfold maxLen; omega) rfl _ (markVal fr) _ rfl rfl HKEY.out ?_; intro w4 hm4 hg4; have X4 := (HX.out.set 0 (.int .u64 fr)).block (hg4.block w.heap.size (by have := HX.out.lt; simpa using this) (by simp; omega)); have k0 := X4.cell 0 _ rfl; clear X4))
  go_ret
  have hroom : ∀ k ∈ ft, k ∉ [w.heap.size] := fun k hk => by simp; have := H.out.room k hk; omega
  have h3 := H2.out.turn (Turn.of_grown (ft := [w.heap.size]) (grown_setCell w2 w.heap.size 0 (.int .u64 fr)) (by simp)) hroom
  have r := h3.handle_s ho hg4 (n := n2) (by simp [Tab.named]; omega) hm4
  rw [← HFR.out] at r
  refine ⟨rfl, ⟨dv2, n2', r, hf2⟩, ?_⟩
  have t1 := HT2.out.widen (ft' := ft) (fun k hk => by simp at hk; rcases hk with rfl | rfl; exact H.out.foot; exact HB2.out.1)
  have t2 : Turn ft w w2 := ((Turn.refl ft w).alloc _).same t1
  have t3 := t2.trans (Turn.of_grown (ft := [w.heap.size]) (grown_setCell w2 w.heap.size 0 (.int .u64 fr)) (by simp)) (fun k hk => .inr (by simp at hk; omega))
  exact t3.same (Turn.of_grown hg4 HB2.out.2)

set_option maxHeartbeats 1000000 in
set_option maxRecDepth 20000 in
theorem handleOf_s0 (w : World) (b : Nat) (ft : List Nat) (T : Tab) (dv : Value) (b1 b2 b3 : Nat) (h : IsO w b ft T dv (.map (some b1)) (.map (some b2)) (.map (some b3))) (l : List Int) (ho : Oct l) (hl : l.length ≤ 1000000) (g : Int) (hold : T.signed l = some g) (f : Value) :
    Calls Try.prog 40 #[.map (some b3), .string (strOfNums l), f] w fun e w' => e = .returned (.int .u64 g) ∧ Below w.heap.size w w' := by
  obtain ⟨hb2, hn0, hn1, n2, hle, g2⟩ := h.map3
  have hlk := g2.look_ok (t := 62) (e := 83) law9 (by kernel_rfl) (zero83 w) (key9 ho (by unfold maxLen; omega))
  rw [litS_at _ _ ho, hold, getD_mark] at hlk
  simp only [Option.getD, Option.isSome_map, Option.isSome_some, markVal] at hlk
  clear h g2
  go_enter Try.func40, Try.ntmps40
  go_wp2
  go_ret
  exact ⟨rfl, balloc (Below.refl _ w) _⟩

end Go.Proofs.Ytcacioogklgahaa
