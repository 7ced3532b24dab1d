/-
  Sum, Sign and Holds over an oracle, and over none; bytes.Clone.
-/
import Derived.Test.YteedjdflojfhmaaBytesE
namespace Go.Proofs.Yteedjdflojfhmaa
set_option linter.unusedVariables false
set_option linter.unusedSimpArgs false
set_option synthInstance.maxSize 20000
set_option maxHeartbeats 2000000
set_option maxRecDepth 20000
open Go.RowKit Go.Maps

theorem bclone_any (v : Value) (l : List Int) (w : World) (hv : Rd w v l) (hl : l.length ≤ 1000000) :
    Calls Try.prog 66 #[v] w fun e w' => ∃ v', e = .returned v' ∧ Own w.heap.size 5 w' v' l ∧ Below w.heap.size w w' := by
  have HV : Hid (Rd w v l) := hv
  obtain ⟨hU, a, cap, rfl, h1, h2, h3, h4⟩ := hv
  cases a with
  | none =>
    have hc := h3 rfl
    subst hc
    have hl0 : l = [] := List.eq_nil_of_length_eq_zero (by omega)
    subst hl0
    have hq := eql_slice 43 5 (by kernel_rfl) w none 0 0
    go_enter Try.func66, Try.ntmps66
    go_wp2
    go_ret
    exact ⟨_, rfl, own_nil _ _ w, Below.refl _ _⟩
  | some ad =>
    have hq := eql_slice 43 5 (by kernel_rfl) w (some ad) l.length cap
    have HO : Hid (Own w.heap.size 5 (w.alloc (.cells #[] 5)) (.slice (some ⟨w.heap.size, 0, none⟩) 0 0) []) :=
      ⟨Oct.nil, rfl, .inr ⟨w.heap.size, 0, #[], rfl, Nat.le_refl _, heap_alloc_new w _, Nat.le_refl _, Nat.zero_le _, rfl, rfl⟩⟩
    have HB : Hid (Below w.heap.size w (w.alloc (.cells #[] 5))) := (show Below _ _ _ from balloc (Below.refl _ _) _)
    clear h4
    go_enter Try.func66, Try.ntmps66
    go_wp2_with (at_builtin; go_must (refine wpList_append_cells 43 5 byteTy rfl (.tmp 5) (.tmp 6) rfl w.heap.size _ [] rfl HO.out _ l rfl (HV.out.below HB.out) (by simp; omega) (by simp) ?_; intro v2 w2 hown2 hg2))
    go_ret
    exact ⟨_, rfl, by simpa using hown2, HO.out.below HB.out (Nat.le_refl _) hg2⟩

theorem own_stays {w w1 w2 : World} {ft : List Nat} {x : Value} {l : List Int} (hroom : ∀ k ∈ ft, k < w.heap.size) (ho : Own w.heap.size 5 w1 x l) : ∀ w', Turn ft w1 w' → Rd w' x l := fun w' ht => ho.rd.turn ht (fun k hk e => by
  have := (ho.2.lt k hk).1
  have := hroom k e
  omega)

theorem sumE_yes (w : World) (b : Nat) (ft : List Nat) (S : St) (h : Rep w b ft S) (hN : S.rows.length + 1 < 1000000000) (e : Ent) (v : Value) (he : EOk e) (hv : Rd w v e.b) (hb : e.b.length ≤ 90000) (hr : rightB e = true) :
    Calls Try.prog 67 #[ptr b, ev e v] w fun r w' => r = .returned (.tuple #[.int .u64 (S.get (.hash (bytesE e))).1, .int .i64 0]) ∧ Left w b ft (S.get (.hash (bytesE e))).2 w' := by
  have HV : Hid (Rd w v e.b) := hv
  have HP : Hid (Rep w b ft S) := h
  have B := fun w' (h : Rd w' v e.b) => bytesF_yes w' e v he h hb hr
  have HLen : Hid ((bytesE e).length ≤ 100000) := by
    show _ ≤ _
    have h1 := text_len he (by omega)
    have h2 := form_le10 (n := e.g.toNat) (by have := he.2.2.2.2.2.2.1; unfold U64 at this; omega)
    unfold bytesE
    rw [List.length_append]
    omega
  generalize bytesE e = L at *
  obtain ⟨a, cap, rfl⟩ := hv.len
  obtain ⟨ew, ei, ep, et, eu, en, eb, eg⟩ := e
  unfold ev at *
  dsimp only at *
  have HBy : Hid (∀ w', Rd w' (.slice a eb.length cap) eb → Calls Try.prog 86 #[.agg #[.int .i64 ew, .int .i64 ei, .int .u64 ep, .int .i64 et, .int .i64 eu, .int .i64 en, .slice a eb.length cap, .int .u64 eg]] w' fun r w'' => ∃ x, r = .returned (.tuple #[x, .int .i64 0]) ∧ Own w'.heap.size 5 w'' x L ∧ Below w'.heap.size w' w'') := B
  obtain ⟨w1, hw1⟩ : ∃ w1, w1 = w.alloc (.cells #[.int .i64 ew, .int .i64 ei, .int .u64 ep, .int .i64 et, .int .i64 eu, .int .i64 en, .slice a eb.length cap, .int .u64 eg] 47) := ⟨_, rfl⟩
  have HB1 : Hid (Below w.heap.size w w1) := by show Below _ _ _; rw [hw1]; exact balloc (Below.refl _ _) _
  have HP1 : Hid (∀ w2, Below w1.heap.size w1 w2 → Rep w2 b ft S) := fun w2 h2 => HP.out.below (bnext HB1.out h2)
  have HRM : Hid (∀ k ∈ ft, k < w1.heap.size) := fun k hk => Nat.lt_of_lt_of_le (h.room k hk) HB1.out.size
  clear B hv he hr h
  go_enter Try.func67, Try.ntmps67
  go_wp2_with (first
    | (go_at_call 86; rw [← hw1]; go_must (refine (HBy.out w1 (HV.out.below HB1.out)).mono ?_; rintro r w2 ⟨x, rfl, ho2, hb2⟩; obtain ⟨ax, cx, hx⟩ := ho2.rd.len; subst hx))
    | (go_at_call 87; go_must (refine (hash_all w2 b ft S (HP1.out w2 hb2) hN _ L (own_stays (w := w1) (w2 := w2) HRM.out ho2) (by have := HLen.out; omega)).mono ?_; rintro r w3 ⟨rfl, hl3⟩)))
  go_ret2
  exact ⟨rfl, hl3.after (bnext HB1.out hb2)⟩

theorem sumE_no (w : World) (o : Value) (e : Ent) (v : Value) (hv : Rd w v e.b) (hr : rightB e = false) :
    Calls Try.prog 67 #[o, ev e v] w fun r w' => r = .returned (.tuple #[.int .u64 0, .int .i64 1]) ∧ Below w.heap.size w w' := by
  have HV : Hid (Rd w v e.b) := hv
  have B := fun w' (h : Rd w' v e.b) => bytesF_no w' e v h hr
  obtain ⟨a, cap, rfl⟩ := hv.len
  obtain ⟨ew, ei, ep, et, eu, en, eb, eg⟩ := e
  unfold ev at *
  dsimp only at *
  have HBy : Hid (∀ w', Rd w' (.slice a eb.length cap) eb → Calls Try.prog 86 #[.agg #[.int .i64 ew, .int .i64 ei, .int .u64 ep, .int .i64 et, .int .i64 eu, .int .i64 en, .slice a eb.length cap, .int .u64 eg]] w' fun r w'' => r = .returned (.tuple #[.slice none 0 0, .int .i64 1]) ∧ Below w'.heap.size w' w'') := B
  obtain ⟨w1, hw1⟩ : ∃ w1, w1 = w.alloc (.cells #[.int .i64 ew, .int .i64 ei, .int .u64 ep, .int .i64 et, .int .i64 eu, .int .i64 en, .slice a eb.length cap, .int .u64 eg] 47) := ⟨_, rfl⟩
  have HB1 : Hid (Below w.heap.size w w1) := by show Below _ _ _; rw [hw1]; exact balloc (Below.refl _ _) _
  clear B hv hr
  go_enter Try.func67, Try.ntmps67
  go_wp2_with (go_at_call 86; rw [← hw1]; go_must (refine (HBy.out w1 (HV.out.below HB1.out)).mono ?_; rintro r w2 ⟨rfl, hb2⟩))
  go_ret2
  exact ⟨rfl, bnext HB1.out hb2⟩

theorem sumE_nil (w : World) (e : Ent) (v : Value) (he : EOk e) (hv : Rd w v e.b) (hb : e.b.length ≤ 90000) (hr : rightB e = true) :
    Calls Try.prog 67 #[.pointer none, ev e v] w fun r w' => r = .returned (.tuple #[.int .u64 0, .int .i64 23]) ∧ Below w.heap.size w w' := by
  have HV : Hid (Rd w v e.b) := hv
  have B := fun w' (h : Rd w' v e.b) => bytesF_yes w' e v he h hb hr
  generalize bytesE e = L at *
  obtain ⟨a, cap, rfl⟩ := hv.len
  obtain ⟨ew, ei, ep, et, eu, en, eb, eg⟩ := e
  unfold ev at *
  dsimp only at *
  have HBy : Hid (∀ w', Rd w' (.slice a eb.length cap) eb → Calls Try.prog 86 #[.agg #[.int .i64 ew, .int .i64 ei, .int .u64 ep, .int .i64 et, .int .i64 eu, .int .i64 en, .slice a eb.length cap, .int .u64 eg]] w' fun r w'' => ∃ x, r = .returned (.tuple #[x, .int .i64 0]) ∧ Own w'.heap.size 5 w'' x L ∧ Below w'.heap.size w' w'') := B
  obtain ⟨w1, hw1⟩ : ∃ w1, w1 = w.alloc (.cells #[.int .i64 ew, .int .i64 ei, .int .u64 ep, .int .i64 et, .int .i64 eu, .int .i64 en, .slice a eb.length cap, .int .u64 eg] 47) := ⟨_, rfl⟩
  have HB1 : Hid (Below w.heap.size w w1) := by show Below _ _ _; rw [hw1]; exact balloc (Below.refl _ _) _
  clear B hv he hr
  go_enter Try.func67, Try.ntmps67
  go_wp2_with (go_at_call 86; rw [← hw1]; go_must (refine (HBy.out w1 (HV.out.below HB1.out)).mono ?_; rintro r w2 ⟨x, rfl, ho2, hb2⟩; obtain ⟨ax, cx, hx⟩ := ho2.rd.len; subst hx))
  go_ret2
  exact ⟨rfl, bnext HB1.out hb2⟩

theorem verify_nil (w : World) (p : Int) (v : Value) (g : Int) : Calls Try.prog 93 #[.pointer none, .int .u64 p, v, .int .u64 g] w fun e w' => e = .returned (.bool false) ∧ w' = w := by
  go_enter Try.func93, Try.ntmps93
  go_wp2
  go_ret
  exact ⟨rfl, rfl⟩

theorem holdsE_no (w : World) (o : Value) (p : Int) (e : Ent) (v : Value) (hv : Rd w v e.b) (hr : rightB e = false) :
    Calls Try.prog 72 #[o, .int .u64 p, ev e v] w fun r w' => r = .returned (.bool false) ∧ Below w.heap.size w w' := by
  have HV : Hid (Rd w v e.b) := hv
  have B := fun w' (h : Rd w' v e.b) => textF_no w' e v h hr
  obtain ⟨a, cap, rfl⟩ := hv.len
  obtain ⟨ew, ei, ep, et, eu, en, eb, eg⟩ := e
  unfold ev at *
  dsimp only at *
  have HBy : Hid (∀ w', Rd w' (.slice a eb.length cap) eb → Calls Try.prog 64 #[.agg #[.int .i64 ew, .int .i64 ei, .int .u64 ep, .int .i64 et, .int .i64 eu, .int .i64 en, .slice a eb.length cap, .int .u64 eg]] w' fun r w'' => r = .returned (.tuple #[.slice none 0 0, .int .i64 1]) ∧ Below w'.heap.size w' w'') := B
  obtain ⟨w1, hw1⟩ : ∃ w1, w1 = w.alloc (.cells #[.int .i64 ew, .int .i64 ei, .int .u64 ep, .int .i64 et, .int .i64 eu, .int .i64 en, .slice a eb.length cap, .int .u64 eg] 47) := ⟨_, rfl⟩
  have HB1 : Hid (Below w.heap.size w w1) := by show Below _ _ _; rw [hw1]; exact balloc (Below.refl _ _) _
  clear B hv hr
  go_enter Try.func72, Try.ntmps72
  go_wp2_with (go_at_call 64; rw [← hw1]; go_must (refine (HBy.out w1 (HV.out.below HB1.out)).mono ?_; rintro r w2 ⟨rfl, hb2⟩))
  go_ret
  exact ⟨rfl, bnext HB1.out hb2⟩

theorem holdsE_any (w : World) (b : Nat) (ft : List Nat) (S : St) (h : Rep w b ft S) (p : Int) (hp : U64 p) (e : Ent) (v : Value) (he : EOk e) (hv : Rd w v e.b) (hb : e.b.length ≤ 90000) :
    Calls Try.prog 72 #[ptr b, .int .u64 p, ev e v] w fun r w' => r = .returned (.bool (rightB e && S.verify p (textL e) e.g)) ∧ Below w.heap.size w w' := by
  by_cases hr' : rightB e = false
  · rw [hr', Bool.false_and]
    exact holdsE_no w _ p e v hv hr'
  have hr : rightB e = true := by simpa using hr'
  clear hr'
  rw [hr, Bool.true_and]
  have HV : Hid (Rd w v e.b) := hv
  have HP : Hid (Rep w b ft S) := h
  have HU : Hid (U64 p) := hp
  have B := fun w' (h : Rd w' v e.b) => textF_yes w' e v he h (by omega) hr
  have HLen : Hid ((textL e).length ≤ 100000) := by
    show _ ≤ _
    have h1 := text_len he (by omega)
    omega
  generalize textL e = L at *
  obtain ⟨a, cap, rfl⟩ := hv.len
  obtain ⟨ew, ei, ep, et, eu, en, eb, eg⟩ := e
  unfold ev at *
  dsimp only at *
  have HBy : Hid (∀ w', Rd w' (.slice a eb.length cap) eb → Calls Try.prog 64 #[.agg #[.int .i64 ew, .int .i64 ei, .int .u64 ep, .int .i64 et, .int .i64 eu, .int .i64 en, .slice a eb.length cap, .int .u64 eg]] w' fun r w'' => ∃ x, r = .returned (.tuple #[x, .int .i64 0]) ∧ Own w'.heap.size 5 w'' x L ∧ Below w'.heap.size w' w'') := B
  obtain ⟨w1, hw1⟩ : ∃ w1, w1 = w.alloc (.cells #[.int .i64 ew, .int .i64 ei, .int .u64 ep, .int .i64 et, .int .i64 eu, .int .i64 en, .slice a eb.length cap, .int .u64 eg] 47) := ⟨_, rfl⟩
  have HB1 : Hid (Below w.heap.size w w1) := by show Below _ _ _; rw [hw1]; exact balloc (Below.refl _ _) _
  have HP1 : Hid (∀ w2, Below w1.heap.size w1 w2 → Rep w2 b ft S) := fun w2 h2 => HP.out.below (bnext HB1.out h2)
  have HX1 : Hid (Blk w1 w.heap.size 47 [.int .i64 ew, .int .i64 ei, .int .u64 ep, .int .i64 et, .int .i64 eu, .int .i64 en, .slice a eb.length cap, .int .u64 eg]) := by show Blk _ _ _ _; rw [hw1]; exact blk_new w [.int .i64 ew, .int .i64 ei, .int .u64 ep, .int .i64 et, .int .i64 eu, .int .i64 en, .slice a eb.length cap, .int .u64 eg] 47
  clear B hv he hr h hp
  go_enter Try.func72, Try.ntmps72
  go_wp2_with (first
    | (go_at_call 64; rw [← hw1]; go_must (refine (HBy.out w1 (HV.out.below HB1.out)).mono ?_; rintro r w2 ⟨x, rfl, ho2, hb2⟩; obtain ⟨ax, cx, hx⟩ := ho2.rd.len; subst hx; have Y := HX1.out.below hb2; have y7 := Y.cell 7 _ rfl))
    | (go_at_call 93; go_must (refine (verify_any w2 b ft S (HP1.out w2 hb2) p HU.out _ L ho2.rd (by have := HLen.out; omega) eg).mono ?_; rintro r w3 ⟨rfl, hb3⟩)))
  go_ret
  exact ⟨rfl, bnext (bnext HB1.out hb2) hb3⟩

theorem holdsE_nil (w : World) (p : Int) (e : Ent) (v : Value) (he : EOk e) (hv : Rd w v e.b) (hb : e.b.length ≤ 90000) (hr : rightB e = true) :
    Calls Try.prog 72 #[.pointer none, .int .u64 p, ev e v] w fun r w' => r = .returned (.bool false) ∧ Below w.heap.size w w' := by
  have HV : Hid (Rd w v e.b) := hv
  have B := fun w' (h : Rd w' v e.b) => textF_yes w' e v he h (by omega) hr
  generalize textL e = L at *
  obtain ⟨a, cap, rfl⟩ := hv.len
  obtain ⟨ew, ei, ep, et, eu, en, eb, eg⟩ := e
  unfold ev at *
  dsimp only at *
  have HBy : Hid (∀ w', Rd w' (.slice a eb.length cap) eb → Calls Try.prog 64 #[.agg #[.int .i64 ew, .int .i64 ei, .int .u64 ep, .int .i64 et, .int .i64 eu, .int .i64 en, .slice a eb.length cap, .int .u64 eg]] w' fun r w'' => ∃ x, r = .returned (.tuple #[x, .int .i64 0]) ∧ Own w'.heap.size 5 w'' x L ∧ Below w'.heap.size w' w'') := B
  obtain ⟨w1, hw1⟩ : ∃ w1, w1 = w.alloc (.cells #[.int .i64 ew, .int .i64 ei, .int .u64 ep, .int .i64 et, .int .i64 eu, .int .i64 en, .slice a eb.length cap, .int .u64 eg] 47) := ⟨_, rfl⟩
  have HB1 : Hid (Below w.heap.size w w1) := by show Below _ _ _; rw [hw1]; exact balloc (Below.refl _ _) _
  have HX1 : Hid (Blk w1 w.heap.size 47 [.int .i64 ew, .int .i64 ei, .int .u64 ep, .int .i64 et, .int .i64 eu, .int .i64 en, .slice a eb.length cap, .int .u64 eg]) := by show Blk _ _ _ _; rw [hw1]; exact blk_new w [.int .i64 ew, .int .i64 ei, .int .u64 ep, .int .i64 et, .int .i64 eu, .int .i64 en, .slice a eb.length cap, .int .u64 eg] 47
  clear B hv he hr
  go_enter Try.func72, Try.ntmps72
  go_wp2_with (first
    | (go_at_call 64; rw [← hw1]; go_must (refine (HBy.out w1 (HV.out.below HB1.out)).mono ?_; rintro r w2 ⟨x, rfl, ho2, hb2⟩; obtain ⟨ax, cx, hx⟩ := ho2.rd.len; subst hx; have Y := HX1.out.below hb2; have y7 := Y.cell 7 _ rfl))
    | (go_at_call 93; go_must (refine (verify_nil w2 p _ eg).mono ?_; rintro r w3 ⟨rfl, hw3⟩; replace hw3 := hw3.symm; subst hw3)))
  go_ret
  exact ⟨rfl, bnext HB1.out hb2⟩
end Go.Proofs.Yteedjdflojfhmaa
