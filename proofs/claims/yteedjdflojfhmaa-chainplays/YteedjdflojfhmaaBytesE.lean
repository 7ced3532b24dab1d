/-
  The text and the bytes of an entry: Text, Bytes.
  An entry that is taken from a reader, by the program.
  Read: the entry that bytes are, or why they are none.
  Same: whether two entries are alike in all.
  The reference's Same of entries.
-/
import Derived.Test.YteedjdflojfhmaaText
import Derived.Laws.StructEq
namespace Go.Proofs.Yteedjdflojfhmaa
section
set_option linter.unusedVariables false
set_option linter.unusedSimpArgs false
set_option synthInstance.maxSize 20000
set_option maxHeartbeats 2000000
set_option maxRecDepth 20000
open Go.RowKit Go.Maps

/-- A block that holds an entry. -/
def BlkE (w : World) (b : Nat) (e : Ent) (v : Value) : Prop := Blk w b 47 (ec e v)
theorem ev_slice (e : Ent) {v : Value} {w : World} (hv : Rd w v e.b) : ∃ a cap, v = .slice a e.b.length cap := hv.len

theorem textF_yes (w : World) (e : Ent) (v : Value) (he : EOk e) (hv : Rd w v e.b) (hb : e.b.length ≤ 1000000) (hr : rightB e = true) :
    Calls Try.prog 64 #[ev e v] w fun r w' => ∃ x, r = .returned (.tuple #[x, .int .i64 0]) ∧ Own w.heap.size 5 w' x (textL e) ∧ Below w.heap.size w w' := by
  have HV : Hid (Rd w v e.b) := hv
  have HE : Hid (EOk e) := he
  have R := fun w' (h : Rd w' v e.b) => rightE_any e v w' h
  have T := fun w' b (hf : Fld w' b []) (h : Rd w' v e.b) => textE_any w' b [] e v hf (by simp) he h hb
  rw [hr] at R
  simp only [List.nil_append] at T
  obtain ⟨a, cap, rfl⟩ := hv.len
  obtain ⟨L, hL⟩ : ∃ L, textL e = L := ⟨_, rfl⟩
  rw [hL] at T ⊢
  obtain ⟨ew, ei, ep, et, eu, en, eb, eg⟩ := e
  unfold ev at *
  dsimp only at *
  have HR : Hid (∀ w', Rd w' (.slice a eb.length cap) eb → Calls Try.prog 62 #[.agg #[.int .i64 ew, .int .i64 ei, .int .u64 ep, .int .i64 et, .int .i64 eu, .int .i64 en, .slice a eb.length cap, .int .u64 eg]] w' fun r w'' => r = .returned (.bool true) ∧ Below w'.heap.size w' w'') := R
  have HT : Hid (∀ w' b, Fld w' b [] → Rd w' (.slice a eb.length cap) eb → Calls Try.prog 83 #[ptr b, .agg #[.int .i64 ew, .int .i64 ei, .int .u64 ep, .int .i64 et, .int .i64 eu, .int .i64 en, .slice a eb.length cap, .int .u64 eg]] w' fun r w'' => r = .returned (.tuple #[]) ∧ Fld w'' b L ∧ w'.grownBy w'' (some b)) := T
  have X := blk_new w [.int .i64 ew, .int .i64 ei, .int .u64 ep, .int .i64 et, .int .i64 eu, .int .i64 en, .slice a eb.length cap, .int .u64 eg] 47
  obtain ⟨w1, hw1⟩ : ∃ w1, w1 = w.alloc (.cells #[.int .i64 ew, .int .i64 ei, .int .u64 ep, .int .i64 et, .int .i64 eu, .int .i64 en, .slice a eb.length cap, .int .u64 eg] 47) := ⟨_, rfl⟩
  have HB1 : Hid (Below w.heap.size w w1) := by show Below _ _ _; rw [hw1]; exact balloc (Below.refl _ _) _
  have HX : Hid (Blk w1 w.heap.size 47 [.int .i64 ew, .int .i64 ei, .int .u64 ep, .int .i64 et, .int .i64 eu, .int .i64 en, .slice a eb.length cap, .int .u64 eg]) := by show Blk _ _ _ _; rw [hw1]; exact X
  clear R T hv he hr hL X
  go_enter Try.func64, Try.ntmps64
  go_upto_region 4 with (go_at_call 62; rw [← hw1]; go_must (refine (HR.out w1 (HV.out.below HB1.out)).mono ?_; rintro r w2 ⟨rfl, hb2⟩))
  obtain ⟨w3, hw3⟩ : ∃ w3, w3 = w2.alloc (.cells #[.slice none 0 0] 126) := ⟨_, rfl⟩
  rw [← hw3]
  have HB3 : Hid (Below w1.heap.size w1 w3) := by show Below _ _ _; rw [hw3]; exact balloc hb2 _
  have HF3 : Hid (Fld w3 w2.heap.size []) := by show Fld _ _ _; rw [hw3]; exact fld_new w2
  have X3 := HX.out.below HB3.out
  have x0 := X3.cell 0 _ rfl
  have x1 := X3.cell 1 _ rfl
  have x2 := X3.cell 2 _ rfl
  have x3 := X3.cell 3 _ rfl
  have x4 := X3.cell 4 _ rfl
  have x5 := X3.cell 5 _ rfl
  have x6 := X3.cell 6 _ rfl
  have x7 := X3.cell 7 _ rfl
  have HB2 : Hid (w.heap.size ≤ w2.heap.size) := Nat.le_trans HB1.out.size hb2.size
  obtain ⟨b, hbb⟩ : ∃ b, b = w2.heap.size := ⟨_, rfl⟩
  rw [← hbb] at HF3 HB2 ⊢
  clear hw1 hw3 X3 hb2 hbb
  go_wp2_with (go_at_call 83; go_must (refine (HT.out w3 b HF3.out (HV.out.below (bnext HB1.out HB3.out))).mono ?_; rintro r w4 ⟨rfl, hf4, hg4⟩; obtain ⟨v4, X4, own4, a4, c4, hv4⟩ := hf4.rd; subst hv4; have y0 := X4.cell 0 _ rfl))
  go_ret2
  exact ⟨_, rfl, own4.lower (by have := HB2.out; omega), bgrown (bnext HB1.out HB3.out) HB2.out hg4⟩

theorem textF_no (w : World) (e : Ent) (v : Value) (hv : Rd w v e.b) (hr : rightB e = false) :
    Calls Try.prog 64 #[ev e v] w fun r w' => r = .returned (.tuple #[.slice none 0 0, .int .i64 1]) ∧ Below w.heap.size w w' := by
  have HV : Hid (Rd w v e.b) := hv
  have R := fun w' (h : Rd w' v e.b) => rightE_any e v w' h
  rw [hr] at R
  obtain ⟨a, cap, rfl⟩ := hv.len
  obtain ⟨ew, ei, ep, et, eu, en, eb, eg⟩ := e
  unfold ev at *
  dsimp only at *
  have HR : Hid (∀ w', Rd w' (.slice a eb.length cap) eb → Calls Try.prog 62 #[.agg #[.int .i64 ew, .int .i64 ei, .int .u64 ep, .int .i64 et, .int .i64 eu, .int .i64 en, .slice a eb.length cap, .int .u64 eg]] w' fun r w'' => r = .returned (.bool false) ∧ Below w'.heap.size w' w'') := R
  clear R hv hr
  go_enter Try.func64, Try.ntmps64
  go_wp2_with (go_at_call 62; go_must (refine (HR.out _ (HV.out.below (balloc (Below.refl _ _) _))).mono ?_; rintro r w2 ⟨rfl, hb2⟩))
  go_ret2
  exact ⟨rfl, bnext (balloc (Below.refl _ _) _) hb2⟩

theorem bytesF_yes (w : World) (e : Ent) (v : Value) (he : EOk e) (hv : Rd w v e.b) (hb : e.b.length ≤ 90000) (hr : rightB e = true) :
    Calls Try.prog 86 #[ev e v] w fun r w' => ∃ x, r = .returned (.tuple #[x, .int .i64 0]) ∧ Own w.heap.size 5 w' x (bytesE e) ∧ Below w.heap.size w w' := by
  have HV : Hid (Rd w v e.b) := hv
  have R := fun w' (h : Rd w' v e.b) => rightE_any e v w' h
  have T := fun w' b (hf : Fld w' b []) (h : Rd w' v e.b) => textE_any w' b [] e v hf (by simp) he h (by omega)
  have hlen := text_len he (by omega)
  have hgn : U64 e.g := he.2.2.2.2.2.2.1
  rw [hr] at R
  simp only [List.nil_append] at T
  obtain ⟨a, cap, rfl⟩ := hv.len
  have HBE : Hid (bytesE e = textL e ++ form e.g.toNat) := rfl
  obtain ⟨G, hG⟩ : ∃ G : Nat, e.g = (G : Int) := ⟨e.g.toNat, by unfold U64 at hgn; omega⟩
  have HG : Hid (G < 18446744073709551616) := by show _ < _; rw [hG] at hgn; unfold U64 at hgn; omega
  obtain ⟨L, hL⟩ : ∃ L, textL e = L := ⟨_, rfl⟩
  rw [hL] at T HBE hlen
  obtain ⟨ew, ei, ep, et, eu, en, eb, eg⟩ := e
  unfold ev at *
  dsimp only at *
  subst hG
  rw [Int.toNat_natCast] at HBE
  have HLen : Hid (L.length ≤ 70 + eb.length) := hlen
  have HR : Hid (∀ w', Rd w' (.slice a eb.length cap) eb → Calls Try.prog 62 #[.agg #[.int .i64 ew, .int .i64 ei, .int .u64 ep, .int .i64 et, .int .i64 eu, .int .i64 en, .slice a eb.length cap, .int .u64 (G : Int)]] w' fun r w'' => r = .returned (.bool true) ∧ Below w'.heap.size w' w'') := R
  have HT : Hid (∀ w' b, Fld w' b [] → Rd w' (.slice a eb.length cap) eb → Calls Try.prog 83 #[ptr b, .agg #[.int .i64 ew, .int .i64 ei, .int .u64 ep, .int .i64 et, .int .i64 eu, .int .i64 en, .slice a eb.length cap, .int .u64 (G : Int)]] w' fun r w'' => r = .returned (.tuple #[]) ∧ Fld w'' b L ∧ w'.grownBy w'' (some b)) := T
  have X := blk_new w [.int .i64 ew, .int .i64 ei, .int .u64 ep, .int .i64 et, .int .i64 eu, .int .i64 en, .slice a eb.length cap, .int .u64 (G : Int)] 47
  obtain ⟨w1, hw1⟩ : ∃ w1, w1 = w.alloc (.cells #[.int .i64 ew, .int .i64 ei, .int .u64 ep, .int .i64 et, .int .i64 eu, .int .i64 en, .slice a eb.length cap, .int .u64 (G : Int)] 47) := ⟨_, rfl⟩
  have HB1 : Hid (Below w.heap.size w w1) := by show Below _ _ _; rw [hw1]; exact balloc (Below.refl _ _) _
  have HX : Hid (Blk w1 w.heap.size 47 [.int .i64 ew, .int .i64 ei, .int .u64 ep, .int .i64 et, .int .i64 eu, .int .i64 en, .slice a eb.length cap, .int .u64 (G : Int)]) := by show Blk _ _ _ _; rw [hw1]; exact X
  clear R T hv he hr hL X hlen hgn
  go_enter Try.func86, Try.ntmps86
  go_upto_region 4 with (go_at_call 62; rw [← hw1]; go_must (refine (HR.out w1 (HV.out.below HB1.out)).mono ?_; rintro r w2 ⟨rfl, hb2⟩))
  obtain ⟨w3, hw3⟩ : ∃ w3, w3 = w2.alloc (.cells #[.slice none 0 0] 126) := ⟨_, rfl⟩
  rw [← hw3]
  have HB3 : Hid (Below w1.heap.size w1 w3) := by show Below _ _ _; rw [hw3]; exact balloc hb2 _
  have HF3 : Hid (Fld w3 w2.heap.size []) := by show Fld _ _ _; rw [hw3]; exact fld_new w2
  have X3 := HX.out.below HB3.out
  have HX3 : Hid (Blk w3 w.heap.size 47 [.int .i64 ew, .int .i64 ei, .int .u64 ep, .int .i64 et, .int .i64 eu, .int .i64 en, .slice a eb.length cap, .int .u64 (G : Int)]) := X3
  have x0 := X3.cell 0 _ rfl
  have x1 := X3.cell 1 _ rfl
  have x2 := X3.cell 2 _ rfl
  have x3 := X3.cell 3 _ rfl
  have x4 := X3.cell 4 _ rfl
  have x5 := X3.cell 5 _ rfl
  have x6 := X3.cell 6 _ rfl
  have x7 := X3.cell 7 _ rfl
  have HB2 : Hid (w.heap.size < w2.heap.size) := Nat.lt_of_lt_of_le HX.out.lt hb2.size
  obtain ⟨b, hbb⟩ : ∃ b, b = w2.heap.size := ⟨_, rfl⟩
  rw [← hbb] at HF3 HB2 ⊢
  clear hw1 hw3 X3 hb2 hbb
  go_upto_region 5 with (go_at_call 83; go_must (refine (HT.out w3 b HF3.out (HV.out.below (bnext HB1.out HB3.out))).mono ?_; rintro r w4 ⟨rfl, hf4, hg4⟩))
  have HF4 : Hid (Fld w4 b L) := hf4
  have HG4 : Hid (w3.grownBy w4 (some b)) := hg4
  have X4 := HX3.out.block (hg4.block _ HX3.out.lt (fun e => by have := Option.some.inj e; have := HB2.out; omega))
  have y7 := X4.cell 7 _ rfl
  have HRU : Hid (RdU (w4.alloc (.cells #[.int .u64 (G : Int)] 32)) (.slice (some ⟨w4.heap.size, 0, none⟩) 1 1) [(G : Int)]) := rdU_row w4 [(G : Int)] 32 (0, 0) (fun z hz => by simp at hz; subst hz; exact u64_nat _ HG.out) (by unfold maxLen; simp)
  have HFL : Hid (formsL [(G : Int)] = form G) := by show _ = _; unfold formsL; simp
  clear hf4 hg4 X4 x0 x1 x2 x3 x4 x5 x6 x7
  go_wp2_with (go_at_call 99; go_must (refine (nums_any _ b L _ [(G : Int)] (HF4.out.below (balloc (Below.refl _ _) _)) HRU.out (by have := HLen.out; omega) (by simp) (out_new HF4.out.lt)).mono ?_; rw [HFL.out]; rintro r w5 ⟨rfl, hf5, hg5⟩; obtain ⟨v5, X5, own5, a5, c5, hv5⟩ := hf5.rd; subst hv5; have z0 := X5.cell 0 _ rfl))
  go_ret2
  refine ⟨_, rfl, ?_, bgrown (balloc (bgrown (bnext HB1.out HB3.out) (Nat.le_of_lt HB2.out) HG4.out) _) (Nat.le_of_lt HB2.out) hg5⟩
  rw [HBE.out]
  have := own5.lower (B' := w.heap.size) (by have := HB2.out; omega)
  first | exact this | (rw [List.length_append] at this; exact this)

theorem bytesF_no (w : World) (e : Ent) (v : Value) (hv : Rd w v e.b) (hr : rightB e = false) :
    Calls Try.prog 86 #[ev e v] w fun r w' => r = .returned (.tuple #[.slice none 0 0, .int .i64 1]) ∧ Below w.heap.size w w' := by
  have HV : Hid (Rd w v e.b) := hv
  have R := fun w' (h : Rd w' v e.b) => rightE_any e v w' h
  rw [hr] at R
  obtain ⟨a, cap, rfl⟩ := hv.len
  obtain ⟨ew, ei, ep, et, eu, en, eb, eg⟩ := e
  unfold ev at *
  dsimp only at *
  have HR : Hid (∀ w', Rd w' (.slice a eb.length cap) eb → Calls Try.prog 62 #[.agg #[.int .i64 ew, .int .i64 ei, .int .u64 ep, .int .i64 et, .int .i64 eu, .int .i64 en, .slice a eb.length cap, .int .u64 eg]] w' fun r w'' => r = .returned (.bool false) ∧ Below w'.heap.size w' w'') := R
  clear R hv hr
  go_enter Try.func86, Try.ntmps86
  go_wp2_with (go_at_call 62; go_must (refine (HR.out _ (HV.out.below (balloc (Below.refl _ _) _))).mono ?_; rintro r w2 ⟨rfl, hb2⟩))
  go_ret2
  exact ⟨rfl, bnext (balloc (Below.refl _ _) _) hb2⟩
end

section
set_option linter.unusedVariables false
set_option linter.unusedSimpArgs false
set_option synthInstance.maxSize 20000
set_option maxHeartbeats 2000000
set_option maxRecDepth 20000
open Go.RowKit Go.Maps

/-- Cells of which none is a byte. -/
def NoByte (vs : List Value) : Prop := ∀ u ∈ vs, ∀ x, u ≠ .int .u8 x
theorem Rd.pastB {w w' : World} {v : Value} {l : List Int} {c : Nat} {e : TypeId} {vs : List Value} (h : Rd w v l) (hX : Blk w c e vs) (hn : NoByte vs) (hg : w.grownBy w' (some c)) : Rd w' v l := by
  obtain ⟨ho, a, cap, rfl, h1, h2, h3, h4⟩ := h
  refine ⟨ho, a, cap, rfl, h1, h2, h3, fun hp => ?_⟩
  obtain ⟨d, off, rfl, hc⟩ := h4 hp
  refine ⟨d, off, rfl, fun j hj => hg.cell (hc j hj) fun e => ?_⟩
  obtain rfl : d = c := by simpa using e
  have hcj := hc j hj
  unfold Blk at hX
  simp only [World.cell?, hX] at hcj
  have : (vs.toArray)[off + j]? = some (.int .u8 (l.getD j 0)) := by simpa using hcj
  rw [List.getElem?_toArray] at this
  exact hn _ (List.mem_of_getElem? this) _ rfl
theorem Rdr.pastB {w w' : World} {b c : Nat} {l : List Int} {k : Int} {e : TypeId} {vs : List Value} (h : Rdr w b l k) (hX : Blk w c e vs) (hn : NoByte vs) (hg : w.grownBy w' (some c)) (hb : b ≠ c) : Rdr w' b l k := by
  obtain ⟨v, hv, hrd⟩ := h.left
  have hbl : w'.heap[b]? = w.heap[b]? := hg.block b (World.block_lt_of_cell? w _ hv) (fun e => hb (Option.some.inj e))
  exact ⟨⟨v, (World.cell?_of_block hbl).trans hv, hrd.pastB hX hn hg⟩, (World.cell?_of_block hbl).trans h.wrong, (World.frozen?_of_block hbl).trans h.f0, (World.frozen?_of_block hbl).trans h.f1, fun o ho => (World.cell?_of_block hbl).trans (h.two o ho), h.gone⟩
theorem grown_set8 (w : World) (c : Nat) (u0 u1 u2 u3 u4 u5 u6 u7 : Value) : w.grownBy ((((((((w.setCell ⟨c, 0, none⟩ u0).setCell ⟨c, 1, none⟩ u1).setCell ⟨c, 2, none⟩ u2).setCell ⟨c, 3, none⟩ u3).setCell ⟨c, 4, none⟩ u4).setCell ⟨c, 5, none⟩ u5).setCell ⟨c, 6, none⟩ u6).setCell ⟨c, 7, none⟩ u7) (some c) := by
  iterate 7 refine grown_trans ?_ (grown_setCell _ _ _ _) (fun k hk => .inl hk)
  exact grown_setCell _ _ _ _
theorem Blk.set8 {w : World} {c : Nat} {e : TypeId} {x0 x1 x2 x3 x4 x5 x6 x7 : Value} (h : Blk w c e [x0, x1, x2, x3, x4, x5, x6, x7]) (u0 u1 u2 u3 u4 u5 u6 u7 : Value) : Blk ((((((((w.setCell ⟨c, 0, none⟩ u0).setCell ⟨c, 1, none⟩ u1).setCell ⟨c, 2, none⟩ u2).setCell ⟨c, 3, none⟩ u3).setCell ⟨c, 4, none⟩ u4).setCell ⟨c, 5, none⟩ u5).setCell ⟨c, 6, none⟩ u6).setCell ⟨c, 7, none⟩ u7) c e [u0, u1, u2, u3, u4, u5, u6, u7] :=
  ((((((((h.set 0 u0).set 1 u1).set 2 u2).set 3 u3).set 4 u4).set 5 u5).set 6 u6).set 7 u7)
end

section
set_option linter.unusedVariables false
set_option linter.unusedSimpArgs false
set_option synthInstance.maxSize 20000
set_option maxHeartbeats 2000000
set_option maxRecDepth 20000
open Go.RowKit Go.Maps
end

section
set_option linter.unusedVariables false
set_option linter.unusedSimpArgs false
set_option synthInstance.maxSize 20000
set_option maxHeartbeats 2000000
set_option maxRecDepth 20000
open Go.RowKit Go.Maps

theorem sameE_any (w : World) (e f : Ent) (v x : Value) (hv : Rd w v e.b) (hx : Rd w x f.b) :
    Calls Try.prog 73 #[ev e v, ev f x] w fun r w' => r = .returned (.bool (sameB e f)) ∧ Below w.heap.size w w' := by
  have HV : Hid (Rd w v e.b) := hv
  have HX : Hid (Rd w x f.b) := hx
  have E := fun w' (h : Rd w' v e.b) (h' : Rd w' x f.b) => equal_any v x e.b f.b w' h h'
  have HS : Hid (sameB e f = (decide (e.w = f.w) && decide (e.i = f.i) && decide (e.p = f.p) && decide (e.t = f.t ∧ e.u = f.u) && decide (e.n = f.n) && decide (e.g = f.g) && decide (e.b = f.b))) := rfl
  generalize sameB e f = q at HS ⊢
  obtain ⟨a, cap, rfl⟩ := hv.len
  obtain ⟨a', cap', rfl⟩ := hx.len
  obtain ⟨ew, ei, ep, et, eu, en, eb, eg⟩ := e
  obtain ⟨fw, fi, fp, ft, fu, fn, fb, fg⟩ := f
  unfold ev at *
  dsimp only at *
  generalize decide (eb = fb) = p at E HS
  have HE : Hid (∀ w', Rd w' (.slice a eb.length cap) eb → Rd w' (.slice a' fb.length cap') fb → Calls Try.prog 94 #[.slice a eb.length cap, .slice a' fb.length cap'] w' fun r w'' => r = .returned (.bool p) ∧ w'' = w') := E
  clear E hv hx
  obtain ⟨w1, hw1⟩ : ∃ w1, w1 = (w.alloc (.cells #[.int .i64 ew, .int .i64 ei, .int .u64 ep, .int .i64 et, .int .i64 eu, .int .i64 en, .slice a eb.length cap, .int .u64 eg] 47)).alloc (.cells #[.int .i64 fw, .int .i64 fi, .int .u64 fp, .int .i64 ft, .int .i64 fu, .int .i64 fn, .slice a' fb.length cap', .int .u64 fg] 47) := ⟨_, rfl⟩
  have HB1 : Hid (Below w.heap.size w w1) := by show Below _ _ _; rw [hw1]; exact balloc (balloc (Below.refl _ _) _) _
  have X1 : Blk w1 w.heap.size 47 [.int .i64 ew, .int .i64 ei, .int .u64 ep, .int .i64 et, .int .i64 eu, .int .i64 en, .slice a eb.length cap, .int .u64 eg] := by rw [hw1]; exact (blk_new w [.int .i64 ew, .int .i64 ei, .int .u64 ep, .int .i64 et, .int .i64 eu, .int .i64 en, .slice a eb.length cap, .int .u64 eg] 47).alloc _
  have X2 : Blk w1 (w.heap.size + 1) 47 [.int .i64 fw, .int .i64 fi, .int .u64 fp, .int .i64 ft, .int .i64 fu, .int .i64 fn, .slice a' fb.length cap', .int .u64 fg] := by
    rw [hw1]
    have := blk_new (w.alloc (.cells #[.int .i64 ew, .int .i64 ei, .int .u64 ep, .int .i64 et, .int .i64 eu, .int .i64 en, .slice a eb.length cap, .int .u64 eg] 47)) [.int .i64 fw, .int .i64 fi, .int .u64 fp, .int .i64 ft, .int .i64 fu, .int .i64 fn, .slice a' fb.length cap', .int .u64 fg] 47
    simpa using this
  have x0 := X1.cell 0 _ rfl
  have x1 := X1.cell 1 _ rfl
  have x2 := X1.cell 2 _ rfl
  have x3 := X1.cell 3 _ rfl
  have x4 := X1.cell 4 _ rfl
  have x5 := X1.cell 5 _ rfl
  have x6 := X1.cell 6 _ rfl
  have x7 := X1.cell 7 _ rfl
  have y0 := X2.cell 0 _ rfl
  have y1 := X2.cell 1 _ rfl
  have y2 := X2.cell 2 _ rfl
  have y3 := X2.cell 3 _ rfl
  have y4 := X2.cell 4 _ rfl
  have y5 := X2.cell 5 _ rfl
  have y6 := X2.cell 6 _ rfl
  have y7 := X2.cell 7 _ rfl
  go_enter Try.func73, Try.ntmps73
  go_upto_region 1 with fail
  rw [← hw1]
  obtain ⟨c, hc⟩ : ∃ c, c = w.heap.size := ⟨_, rfl⟩
  rw [← hc] at x0 x1 x2 x3 x4 x5 x6 x7 y0 y1 y2 y3 y4 y5 y6 y7 ⊢
  clear hw1 hc X1 X2
  by_cases e0 : ew = fw
  · by_cases e1 : ei = fi
    · by_cases e2 : ep = fp
      · by_cases e3 : et = ft
        · by_cases e4 : eu = fu
          · by_cases e5 : en = fn
            · by_cases e6 : eg = fg
              · subst e0 e1 e2 e3 e4 e5 e6
                simp only [decide_true, Bool.true_and, true_and] at HS
                go_wp2_with (go_at_call 94; go_must (refine (HE.out w1 (HV.out.below HB1.out) (HX.out.below HB1.out)).mono ?_; rintro r w2 ⟨rfl, hw2⟩; replace hw2 := hw2.symm; subst hw2))
                go_ret
                exact ⟨by rw [HS.out]; rfl, HB1.out⟩
              · have b6 : (eg == fg) = false := by simpa using e6
                rw [decide_eq_false e6] at HS
                subst e0 e1 e2 e3 e4 e5
                clear e6
                simp only [Bool.and_false, Bool.false_and] at HS
                go_wp2_with fail
                go_ret
                exact ⟨by rw [HS.out]; rfl, HB1.out⟩
            · have b5 : (en == fn) = false := by simpa using e5
              rw [decide_eq_false e5] at HS
              subst e0 e1 e2 e3 e4
              clear e5
              simp only [Bool.and_false, Bool.false_and] at HS
              go_wp2_with fail
              go_ret
              exact ⟨by rw [HS.out]; rfl, HB1.out⟩
          · have b4 : (eu == fu) = false := by simpa using e4
            rw [decide_eq_false (fun h : et = ft ∧ eu = fu => e4 h.2)] at HS
            subst e0 e1 e2 e3
            simp only [Bool.and_false, Bool.false_and] at HS
            go_wp2_with fail
            go_ret
            exact ⟨by rw [HS.out]; rfl, HB1.out⟩
        · have b3 : (et == ft) = false := by simpa using e3
          rw [decide_eq_false (fun h : et = ft ∧ eu = fu => e3 h.1)] at HS
          subst e0 e1 e2
          simp only [Bool.and_false, Bool.false_and] at HS
          go_wp2_with fail
          go_ret
          exact ⟨by rw [HS.out]; rfl, HB1.out⟩
      · have b2 : (ep == fp) = false := by simpa using e2
        rw [decide_eq_false e2] at HS
        subst e0 e1
        clear e2
        simp only [Bool.and_false, Bool.false_and] at HS
        go_wp2_with fail
        go_ret
        exact ⟨by rw [HS.out]; rfl, HB1.out⟩
    · have b1 : (ei == fi) = false := by simpa using e1
      rw [decide_eq_false e1] at HS
      subst e0
      clear e1
      simp only [Bool.and_false, Bool.false_and] at HS
      go_wp2_with fail
      go_ret
      exact ⟨by rw [HS.out]; rfl, HB1.out⟩
  · have b0 : (ew == fw) = false := by simpa using e0
    rw [decide_eq_false e0] at HS
    clear e0
    simp only [Bool.and_false, Bool.false_and] at HS
    go_wp2_with fail
    go_ret
    exact ⟨by rw [HS.out]; rfl, HB1.out⟩
end

section
set_option linter.unusedVariables false
set_option linter.unusedSimpArgs false
set_option synthInstance.maxSize 20000
set_option maxHeartbeats 2000000
set_option maxRecDepth 20000
open Go.RowKit Go.Maps

theorem refsameE_any (w : World) (e f : Ent) (v x : Value) (hv : Rd w v e.b) (hx : Rd w x f.b) :
    Calls Try.prog 21 #[ev e v, ev f x] w fun r w' => r = .returned (.bool (sameB e f)) ∧ Below w.heap.size w w' := by
  have HV : Hid (Rd w v e.b) := hv
  have HX : Hid (Rd w x f.b) := hx
  have E := fun w' (h : Rd w' v e.b) (h' : Rd w' x f.b) => same_any v x e.b f.b w' h h'
  have HS : Hid (sameB e f = (decide (e.w = f.w) && decide (e.i = f.i) && decide (e.p = f.p) && decide (e.t = f.t ∧ e.u = f.u) && decide (e.n = f.n) && decide (e.g = f.g) && decide (e.b = f.b))) := rfl
  generalize sameB e f = q at HS ⊢
  obtain ⟨a, cap, rfl⟩ := hv.len
  obtain ⟨a', cap', rfl⟩ := hx.len
  obtain ⟨ew, ei, ep, et, eu, en, eb, eg⟩ := e
  obtain ⟨fw, fi, fp, ft, fu, fn, fb, fg⟩ := f
  unfold ev at *
  dsimp only at *
  generalize decide (eb = fb) = p at E HS
  have HE : Hid (∀ w', Rd w' (.slice a eb.length cap) eb → Rd w' (.slice a' fb.length cap') fb → Calls Try.prog 34 #[.slice a eb.length cap, .slice a' fb.length cap'] w' fun r w'' => r = .returned (.bool p) ∧ Below w'.heap.size w' w'') := E
  clear E hv hx
  obtain ⟨w1, hw1⟩ : ∃ w1, w1 = (w.alloc (.cells #[.int .i64 ew, .int .i64 ei, .int .u64 ep, .int .i64 et, .int .i64 eu, .int .i64 en, .slice a eb.length cap, .int .u64 eg] 47)).alloc (.cells #[.int .i64 fw, .int .i64 fi, .int .u64 fp, .int .i64 ft, .int .i64 fu, .int .i64 fn, .slice a' fb.length cap', .int .u64 fg] 47) := ⟨_, rfl⟩
  have HB1 : Hid (Below w.heap.size w w1) := by show Below _ _ _; rw [hw1]; exact balloc (balloc (Below.refl _ _) _) _
  have X1 : Blk w1 w.heap.size 47 [.int .i64 ew, .int .i64 ei, .int .u64 ep, .int .i64 et, .int .i64 eu, .int .i64 en, .slice a eb.length cap, .int .u64 eg] := by rw [hw1]; exact (blk_new w [.int .i64 ew, .int .i64 ei, .int .u64 ep, .int .i64 et, .int .i64 eu, .int .i64 en, .slice a eb.length cap, .int .u64 eg] 47).alloc _
  have X2 : Blk w1 (w.heap.size + 1) 47 [.int .i64 fw, .int .i64 fi, .int .u64 fp, .int .i64 ft, .int .i64 fu, .int .i64 fn, .slice a' fb.length cap', .int .u64 fg] := by
    rw [hw1]
    have := blk_new (w.alloc (.cells #[.int .i64 ew, .int .i64 ei, .int .u64 ep, .int .i64 et, .int .i64 eu, .int .i64 en, .slice a eb.length cap, .int .u64 eg] 47)) [.int .i64 fw, .int .i64 fi, .int .u64 fp, .int .i64 ft, .int .i64 fu, .int .i64 fn, .slice a' fb.length cap', .int .u64 fg] 47
    simpa using this
  have x0 := X1.cell 0 _ rfl
  have x1 := X1.cell 1 _ rfl
  have x2 := X1.cell 2 _ rfl
  have x3 := X1.cell 3 _ rfl
  have x4 := X1.cell 4 _ rfl
  have x5 := X1.cell 5 _ rfl
  have x6 := X1.cell 6 _ rfl
  have x7 := X1.cell 7 _ rfl
  have y0 := X2.cell 0 _ rfl
  have y1 := X2.cell 1 _ rfl
  have y2 := X2.cell 2 _ rfl
  have y3 := X2.cell 3 _ rfl
  have y4 := X2.cell 4 _ rfl
  have y5 := X2.cell 5 _ rfl
  have y6 := X2.cell 6 _ rfl
  have y7 := X2.cell 7 _ rfl
  go_enter Try.func21, Try.ntmps21
  go_upto_region 1 with fail
  rw [← hw1]
  obtain ⟨c, hc⟩ : ∃ c, c = w.heap.size := ⟨_, rfl⟩
  rw [← hc] at x0 x1 x2 x3 x4 x5 x6 x7 y0 y1 y2 y3 y4 y5 y6 y7 ⊢
  clear hw1 hc X1 X2
  by_cases e0 : ew = fw
  · by_cases e1 : ei = fi
    · by_cases e2 : ep = fp
      · by_cases e3 : et = ft
        · by_cases e4 : eu = fu
          · by_cases e5 : en = fn
            · by_cases e6 : eg = fg
              · subst e0 e1 e2 e3 e4 e5 e6
                simp only [decide_true, Bool.true_and, true_and] at HS
                go_wp2_with (go_at_call 34; go_must (refine (HE.out w1 (HV.out.below HB1.out) (HX.out.below HB1.out)).mono ?_; rintro r w2 ⟨rfl, hb2⟩))
                go_ret
                exact ⟨by rw [HS.out]; rfl, bnext HB1.out hb2⟩
              · have b6 : (eg == fg) = false := by simpa using e6
                rw [decide_eq_false e6] at HS
                subst e0 e1 e2 e3 e4 e5
                clear e6
                simp only [Bool.and_false, Bool.false_and] at HS
                go_wp2_with fail
                go_ret
                exact ⟨by rw [HS.out]; rfl, HB1.out⟩
            · have b5 : (en == fn) = false := by simpa using e5
              rw [decide_eq_false e5] at HS
              subst e0 e1 e2 e3 e4
              clear e5
              simp only [Bool.and_false, Bool.false_and] at HS
              go_wp2_with fail
              go_ret
              exact ⟨by rw [HS.out]; rfl, HB1.out⟩
          · have b4 : (eu == fu) = false := by simpa using e4
            rw [decide_eq_false (fun h : et = ft ∧ eu = fu => e4 h.2)] at HS
            subst e0 e1 e2 e3
            simp only [Bool.and_false, Bool.false_and] at HS
            go_wp2_with fail
            go_ret
            exact ⟨by rw [HS.out]; rfl, HB1.out⟩
        · have b3 : (et == ft) = false := by simpa using e3
          rw [decide_eq_false (fun h : et = ft ∧ eu = fu => e3 h.1)] at HS
          subst e0 e1 e2
          simp only [Bool.and_false, Bool.false_and] at HS
          go_wp2_with fail
          go_ret
          exact ⟨by rw [HS.out]; rfl, HB1.out⟩
      · have b2 : (ep == fp) = false := by simpa using e2
        rw [decide_eq_false e2] at HS
        subst e0 e1
        clear e2
        simp only [Bool.and_false, Bool.false_and] at HS
        go_wp2_with fail
        go_ret
        exact ⟨by rw [HS.out]; rfl, HB1.out⟩
    · have b1 : (ei == fi) = false := by simpa using e1
      rw [decide_eq_false e1] at HS
      subst e0
      clear e1
      simp only [Bool.and_false, Bool.false_and] at HS
      go_wp2_with fail
      go_ret
      exact ⟨by rw [HS.out]; rfl, HB1.out⟩
  · have b0 : (ew == fw) = false := by simpa using e0
    rw [decide_eq_false e0] at HS
    clear e0
    simp only [Bool.and_false, Bool.false_and] at HS
    go_wp2_with fail
    go_ret
    exact ⟨by rw [HS.out]; rfl, HB1.out⟩
end
end Go.Proofs.Yteedjdflojfhmaa
