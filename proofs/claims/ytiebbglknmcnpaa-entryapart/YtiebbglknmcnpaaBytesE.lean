/-
  The text and the bytes of an entry: Text, Bytes.
-/
import Derived.Test.YtiebbglknmcnpaaText
namespace Go.Proofs.Ytiebbglknmcnpaa
set_option linter.unusedVariables false
set_option linter.unusedSimpArgs false
set_option synthInstance.maxSize 20000
set_option maxHeartbeats 2000000
set_option maxRecDepth 20000
open Go.RowKit Go.Maps

/-- A block that holds an entry. -/
def BlkE (w : World) (b : Nat) (e : Ent) (v : Value) : Prop := Blk w b 28 (ec e v)
theorem ev_slice (e : Ent) {v : Value} {w : World} (hv : Rd w v e.b) : ∃ a cap, v = .slice a e.b.length cap := hv.len

theorem textF_yes (w : World) (e : Ent) (v : Value) (he : EOk e) (hv : Rd w v e.b) (hb : e.b.length ≤ 1000000) (hr : rightB e = true) :
    Calls Try.prog 31 #[ev e v] w fun r w' => ∃ x, r = .returned (.tuple #[x, .int .i64 0]) ∧ Own w.heap.size 5 w' x (textL e) ∧ Below w.heap.size w w' := by
  have HV : Hid (Rd w v e.b) := hv
  have HE : Hid (EOk e) := he
  have R := fun w' (h : Rd w' v e.b) => rightE_any e v w' h
  have T := fun w' b (hf : Fld w' b []) (h : Rd w' v e.b) => textE_any w' b [] e v hf (by simp) he h hb
  rw [hr] at R
  simp only [List.nil_append] at T
  obtain ⟨a, cap, rfl⟩ := hv.len
  obtain ⟨L, hL⟩ : ∃ L, textL e = L := ⟨_, rfl⟩
  rw [hL] at T ⊢
  obtain ⟨ew, ei, ep, et, eu, en, eb, eg⟩ := e
  unfold ev at *
  dsimp only at *
  have HR : Hid (∀ w', Rd w' (.slice a eb.length cap) eb → Calls Try.prog 20 #[.agg #[.int .i64 ew, .int .i64 ei, .int .u64 ep, .int .i64 et, .int .i64 eu, .int .i64 en, .slice a eb.length cap, .int .u64 eg]] w' fun r w'' => r = .returned (.bool true) ∧ Below w'.heap.size w' w'') := R
  have HT : Hid (∀ w' b, Fld w' b [] → Rd w' (.slice a eb.length cap) eb → Calls Try.prog 38 #[ptr b, .agg #[.int .i64 ew, .int .i64 ei, .int .u64 ep, .int .i64 et, .int .i64 eu, .int .i64 en, .slice a eb.length cap, .int .u64 eg]] w' fun r w'' => r = .returned (.tuple #[]) ∧ Fld w'' b L ∧ w'.grownBy w'' (some b)) := T
  have X := blk_new w [.int .i64 ew, .int .i64 ei, .int .u64 ep, .int .i64 et, .int .i64 eu, .int .i64 en, .slice a eb.length cap, .int .u64 eg] 28
  obtain ⟨w1, hw1⟩ : ∃ w1, w1 = w.alloc (.cells #[.int .i64 ew, .int .i64 ei, .int .u64 ep, .int .i64 et, .int .i64 eu, .int .i64 en, .slice a eb.length cap, .int .u64 eg] 28) := ⟨_, rfl⟩
  have HB1 : Hid (Below w.heap.size w w1) := by show Below _ _ _; rw [hw1]; exact balloc (Below.refl _ _) _
  have HX : Hid (Blk w1 w.heap.size 28 [.int .i64 ew, .int .i64 ei, .int .u64 ep, .int .i64 et, .int .i64 eu, .int .i64 en, .slice a eb.length cap, .int .u64 eg]) := by show Blk _ _ _ _; rw [hw1]; exact X
  clear R T hv he hr hL X
  go_enter Try.func31, Try.ntmps31
  go_upto_region 4 with (go_at_call 20; rw [← hw1]; go_must (refine (HR.out w1 (HV.out.below HB1.out)).mono ?_; rintro r w2 ⟨rfl, hb2⟩))
  obtain ⟨w3, hw3⟩ : ∃ w3, w3 = w2.alloc (.cells #[.slice none 0 0] 75) := ⟨_, rfl⟩
  rw [← hw3]
  have HB3 : Hid (Below w1.heap.size w1 w3) := by show Below _ _ _; rw [hw3]; exact balloc hb2 _
  have HF3 : Hid (Fld w3 w2.heap.size []) := by show Fld _ _ _; rw [hw3]; exact fld_new w2
  have X3 := HX.out.below HB3.out
  have x0 := X3.cell 0 _ rfl
  have x1 := X3.cell 1 _ rfl
  have x2 := X3.cell 2 _ rfl
  have x3 := X3.cell 3 _ rfl
  have x4 := X3.cell 4 _ rfl
  have x5 := X3.cell 5 _ rfl
  have x6 := X3.cell 6 _ rfl
  have x7 := X3.cell 7 _ rfl
  have HB2 : Hid (w.heap.size ≤ w2.heap.size) := Nat.le_trans HB1.out.size hb2.size
  obtain ⟨b, hbb⟩ : ∃ b, b = w2.heap.size := ⟨_, rfl⟩
  rw [← hbb] at HF3 HB2 ⊢
  clear hw1 hw3 X3 hb2 hbb
  go_wp2_with (go_at_call 38; go_must (refine (HT.out w3 b HF3.out (HV.out.below (bnext HB1.out HB3.out))).mono ?_; rintro r w4 ⟨rfl, hf4, hg4⟩; obtain ⟨v4, X4, own4, a4, c4, hv4⟩ := hf4.rd; subst hv4; have y0 := X4.cell 0 _ rfl))
  go_ret2
  exact ⟨_, rfl, own4.lower (by have := HB2.out; omega), bgrown (bnext HB1.out HB3.out) HB2.out hg4⟩

theorem textF_no (w : World) (e : Ent) (v : Value) (hv : Rd w v e.b) (hr : rightB e = false) :
    Calls Try.prog 31 #[ev e v] w fun r w' => r = .returned (.tuple #[.slice none 0 0, .int .i64 1]) ∧ Below w.heap.size w w' := by
  have HV : Hid (Rd w v e.b) := hv
  have R := fun w' (h : Rd w' v e.b) => rightE_any e v w' h
  rw [hr] at R
  obtain ⟨a, cap, rfl⟩ := hv.len
  obtain ⟨ew, ei, ep, et, eu, en, eb, eg⟩ := e
  unfold ev at *
  dsimp only at *
  have HR : Hid (∀ w', Rd w' (.slice a eb.length cap) eb → Calls Try.prog 20 #[.agg #[.int .i64 ew, .int .i64 ei, .int .u64 ep, .int .i64 et, .int .i64 eu, .int .i64 en, .slice a eb.length cap, .int .u64 eg]] w' fun r w'' => r = .returned (.bool false) ∧ Below w'.heap.size w' w'') := R
  clear R hv hr
  go_enter Try.func31, Try.ntmps31
  go_wp2_with (go_at_call 20; go_must (refine (HR.out _ (HV.out.below (balloc (Below.refl _ _) _))).mono ?_; rintro r w2 ⟨rfl, hb2⟩))
  go_ret2
  exact ⟨rfl, bnext (balloc (Below.refl _ _) _) hb2⟩

theorem bytesF_yes (w : World) (e : Ent) (v : Value) (he : EOk e) (hv : Rd w v e.b) (hb : e.b.length ≤ 90000) (hr : rightB e = true) :
    Calls Try.prog 19 #[ev e v] w fun r w' => ∃ x, r = .returned (.tuple #[x, .int .i64 0]) ∧ Own w.heap.size 5 w' x (bytesE e) ∧ Below w.heap.size w w' := by
  have HV : Hid (Rd w v e.b) := hv
  have R := fun w' (h : Rd w' v e.b) => rightE_any e v w' h
  have T := fun w' b (hf : Fld w' b []) (h : Rd w' v e.b) => textE_any w' b [] e v hf (by simp) he h (by omega)
  have hlen := text_len he (by omega)
  have hgn : U64 e.g := he.2.2.2.2.2.2.1
  rw [hr] at R
  simp only [List.nil_append] at T
  obtain ⟨a, cap, rfl⟩ := hv.len
  have HBE : Hid (bytesE e = textL e ++ form e.g.toNat) := rfl
  obtain ⟨G, hG⟩ : ∃ G : Nat, e.g = (G : Int) := ⟨e.g.toNat, by unfold U64 at hgn; omega⟩
  have HG : Hid (G < 18446744073709551616) := by show _ < _; rw [hG] at hgn; unfold U64 at hgn; omega
  obtain ⟨L, hL⟩ : ∃ L, textL e = L := ⟨_, rfl⟩
  rw [hL] at T HBE hlen
  obtain ⟨ew, ei, ep, et, eu, en, eb, eg⟩ := e
  unfold ev at *
  dsimp only at *
  subst hG
  rw [Int.toNat_natCast] at HBE
  have HLen : Hid (L.length ≤ 70 + eb.length) := hlen
  have HR : Hid (∀ w', Rd w' (.slice a eb.length cap) eb → Calls Try.prog 20 #[.agg #[.int .i64 ew, .int .i64 ei, .int .u64 ep, .int .i64 et, .int .i64 eu, .int .i64 en, .slice a eb.length cap, .int .u64 (G : Int)]] w' fun r w'' => r = .returned (.bool true) ∧ Below w'.heap.size w' w'') := R
  have HT : Hid (∀ w' b, Fld w' b [] → Rd w' (.slice a eb.length cap) eb → Calls Try.prog 38 #[ptr b, .agg #[.int .i64 ew, .int .i64 ei, .int .u64 ep, .int .i64 et, .int .i64 eu, .int .i64 en, .slice a eb.length cap, .int .u64 (G : Int)]] w' fun r w'' => r = .returned (.tuple #[]) ∧ Fld w'' b L ∧ w'.grownBy w'' (some b)) := T
  have X := blk_new w [.int .i64 ew, .int .i64 ei, .int .u64 ep, .int .i64 et, .int .i64 eu, .int .i64 en, .slice a eb.length cap, .int .u64 (G : Int)] 28
  obtain ⟨w1, hw1⟩ : ∃ w1, w1 = w.alloc (.cells #[.int .i64 ew, .int .i64 ei, .int .u64 ep, .int .i64 et, .int .i64 eu, .int .i64 en, .slice a eb.length cap, .int .u64 (G : Int)] 28) := ⟨_, rfl⟩
  have HB1 : Hid (Below w.heap.size w w1) := by show Below _ _ _; rw [hw1]; exact balloc (Below.refl _ _) _
  have HX : Hid (Blk w1 w.heap.size 28 [.int .i64 ew, .int .i64 ei, .int .u64 ep, .int .i64 et, .int .i64 eu, .int .i64 en, .slice a eb.length cap, .int .u64 (G : Int)]) := by show Blk _ _ _ _; rw [hw1]; exact X
  clear R T hv he hr hL X hlen hgn
  go_enter Try.func19, Try.ntmps19
  go_upto_region 4 with (go_at_call 20; rw [← hw1]; go_must (refine (HR.out w1 (HV.out.below HB1.out)).mono ?_; rintro r w2 ⟨rfl, hb2⟩))
  obtain ⟨w3, hw3⟩ : ∃ w3, w3 = w2.alloc (.cells #[.slice none 0 0] 75) := ⟨_, rfl⟩
  rw [← hw3]
  have HB3 : Hid (Below w1.heap.size w1 w3) := by show Below _ _ _; rw [hw3]; exact balloc hb2 _
  have HF3 : Hid (Fld w3 w2.heap.size []) := by show Fld _ _ _; rw [hw3]; exact fld_new w2
  have X3 := HX.out.below HB3.out
  have HX3 : Hid (Blk w3 w.heap.size 28 [.int .i64 ew, .int .i64 ei, .int .u64 ep, .int .i64 et, .int .i64 eu, .int .i64 en, .slice a eb.length cap, .int .u64 (G : Int)]) := X3
  have x0 := X3.cell 0 _ rfl
  have x1 := X3.cell 1 _ rfl
  have x2 := X3.cell 2 _ rfl
  have x3 := X3.cell 3 _ rfl
  have x4 := X3.cell 4 _ rfl
  have x5 := X3.cell 5 _ rfl
  have x6 := X3.cell 6 _ rfl
  have x7 := X3.cell 7 _ rfl
  have HB2 : Hid (w.heap.size < w2.heap.size) := Nat.lt_of_lt_of_le HX.out.lt hb2.size
  obtain ⟨b, hbb⟩ : ∃ b, b = w2.heap.size := ⟨_, rfl⟩
  rw [← hbb] at HF3 HB2 ⊢
  clear hw1 hw3 X3 hb2 hbb
  go_upto_region 5 with (go_at_call 38; go_must (refine (HT.out w3 b HF3.out (HV.out.below (bnext HB1.out HB3.out))).mono ?_; rintro r w4 ⟨rfl, hf4, hg4⟩))
  have HF4 : Hid (Fld w4 b L) := hf4
  have HG4 : Hid (w3.grownBy w4 (some b)) := hg4
  have X4 := HX3.out.block (hg4.block _ HX3.out.lt (fun e => by have := Option.some.inj e; have := HB2.out; omega))
  have y7 := X4.cell 7 _ rfl
  have HRU : Hid (RdU (w4.alloc (.cells #[.int .u64 (G : Int)] 23)) (.slice (some ⟨w4.heap.size, 0, none⟩) 1 1) [(G : Int)]) := rdU_row w4 [(G : Int)] 23 (0, 0) (fun z hz => by simp at hz; subst hz; exact u64_nat _ HG.out) (by unfold maxLen; simp)
  have HFL : Hid (formsL [(G : Int)] = form G) := by show _ = _; unfold formsL; simp
  clear hf4 hg4 X4 x0 x1 x2 x3 x4 x5 x6 x7
  go_wp2_with (go_at_call 39; go_must (refine (nums_any _ b L _ [(G : Int)] (HF4.out.below (balloc (Below.refl _ _) _)) HRU.out (by have := HLen.out; omega) (by simp) (out_new HF4.out.lt)).mono ?_; rw [HFL.out]; rintro r w5 ⟨rfl, hf5, hg5⟩; obtain ⟨v5, X5, own5, a5, c5, hv5⟩ := hf5.rd; subst hv5; have z0 := X5.cell 0 _ rfl))
  go_ret2
  refine ⟨_, rfl, ?_, bgrown (balloc (bgrown (bnext HB1.out HB3.out) (Nat.le_of_lt HB2.out) HG4.out) _) (Nat.le_of_lt HB2.out) hg5⟩
  rw [HBE.out]
  have := own5.lower (B' := w.heap.size) (by have := HB2.out; omega)
  first | exact this | (rw [List.length_append] at this; exact this)

theorem bytesF_no (w : World) (e : Ent) (v : Value) (hv : Rd w v e.b) (hr : rightB e = false) :
    Calls Try.prog 19 #[ev e v] w fun r w' => r = .returned (.tuple #[.slice none 0 0, .int .i64 1]) ∧ Below w.heap.size w w' := by
  have HV : Hid (Rd w v e.b) := hv
  have R := fun w' (h : Rd w' v e.b) => rightE_any e v w' h
  rw [hr] at R
  obtain ⟨a, cap, rfl⟩ := hv.len
  obtain ⟨ew, ei, ep, et, eu, en, eb, eg⟩ := e
  unfold ev at *
  dsimp only at *
  have HR : Hid (∀ w', Rd w' (.slice a eb.length cap) eb → Calls Try.prog 20 #[.agg #[.int .i64 ew, .int .i64 ei, .int .u64 ep, .int .i64 et, .int .i64 eu, .int .i64 en, .slice a eb.length cap, .int .u64 eg]] w' fun r w'' => r = .returned (.bool false) ∧ Below w'.heap.size w' w'') := R
  clear R hv hr
  go_enter Try.func19, Try.ntmps19
  go_wp2_with (go_at_call 20; go_must (refine (HR.out _ (HV.out.below (balloc (Below.refl _ _) _))).mono ?_; rintro r w2 ⟨rfl, hb2⟩))
  go_ret2
  exact ⟨rfl, bnext (balloc (Below.refl _ _) _) hb2⟩
end Go.Proofs.Ytiebbglknmcnpaa
