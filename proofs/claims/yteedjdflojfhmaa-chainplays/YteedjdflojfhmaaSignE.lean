/-
  Sign over an oracle, and over none.
-/
import Derived.Test.YteedjdflojfhmaaSumE
namespace Go.Proofs.Yteedjdflojfhmaa
set_option linter.unusedVariables false
set_option linter.unusedSimpArgs false
set_option synthInstance.maxSize 20000
set_option maxHeartbeats 2000000
set_option maxRecDepth 20000
open Go.RowKit Go.Maps

theorem Left.stores {w w2 w3 w4 : World} {b c : Nat} {ft : List Nat} {S' : St} (h : Left w2 b ft S' w3) (hb : Below w.heap.size w w2) (hroom : ∀ k ∈ ft, k < w.heap.size) (hc : w.heap.size ≤ c) (hc2 : c < w2.heap.size) (hg : w3.grownBy w4 (some c)) : Left w b ft S' w4 := by
  obtain ⟨⟨ft', rep, of'⟩, t⟩ := h
  refine ⟨⟨ft', rep.turn (X := [c]) (Turn.of_grown hg (by simp)) (fun k hk e => ?_), fun k hk => ?_⟩, ((Turn.of_below hb).same t).trans (Turn.of_grown (ft := [c]) hg (by simp)) (fun k hk => .inr (by simp at hk; omega))⟩
  · simp at e
    subst e
    rcases of' _ hk with r | r
    · have := hroom _ r; omega
    · omega
  · rcases of' _ hk with r | r
    · exact .inl r
    · exact .inr (Nat.le_trans hb.size r)
theorem LeftB.stores {w w2 w4 w5 : World} {b : Nat} {ft : List Nat} {S' : St} {x : Value} {l : List Int} (h : LeftB w2 b ft S' w4 x l) (hb : Below w.heap.size w w2) (hroom : ∀ k ∈ ft, k < w.heap.size) (X : List Nat) (hX : ∀ k ∈ X, w.heap.size ≤ k ∧ k < w2.heap.size) (ht : Turn X w4 w5) (hr : Rd w5 x l) : LeftB w b ft S' w5 x l := by
  obtain ⟨_, ⟨ft', rep, of', out'⟩, t, own'⟩ := h
  refine ⟨hr, ⟨ft', rep.turn ht (fun k hk e => ?_), fun k hk => ?_, out'⟩, ((Turn.of_below hb).same t).trans ht (fun k hk => .inr (hX k hk).1), fun k hk => ?_⟩
  · have h1 := hX k e
    rcases of' _ hk with r | r
    · have := hroom _ r; omega
    · omega
  · rcases of' _ hk with r | r
    · exact .inl r
    · exact .inr (Nat.le_trans hb.size r)
  · have h1 := own' k hk
    have := hb.size
    have := ht.size
    omega
theorem grown_two {w : World} {c : Nat} (u v : Value) (i j : Nat) : w.grownBy ((w.setCell ⟨c, i, none⟩ u).setCell ⟨c, j, none⟩ v) (some c) := grown_trans (grown_setCell _ _ _ _) (grown_setCell _ _ _ _) (fun k hk => .inl hk)
theorem zeroNB : NoByte [.int .i64 0, .int .i64 0, .int .u64 0, .int .i64 0, .int .i64 0, .int .i64 0, .slice none 0 0, .int .u64 0] := by unfold NoByte; simp

theorem signE_no (w : World) (o : Value) (s : Int) (e : Ent) (v : Value) (hv : Rd w v e.b) (hr : rightB e = false) :
    Calls Try.prog 45 #[o, .int .u64 s, ev e v] w fun r w' => r = .returned (.tuple #[ev zeroE (.slice none 0 0), .int .i64 1]) ∧ Below w.heap.size w w' := by
  have HV : Hid (Rd w v e.b) := hv
  have B := fun w' (h : Rd w' v e.b) => textF_no w' e v h hr
  obtain ⟨a, cap, rfl⟩ := hv.len
  obtain ⟨ew, ei, ep, et, eu, en, eb, eg⟩ := e
  unfold ev at *
  dsimp only at *
  have HBy : Hid (∀ w', Rd w' (.slice a eb.length cap) eb → Calls Try.prog 64 #[.agg #[.int .i64 ew, .int .i64 ei, .int .u64 ep, .int .i64 et, .int .i64 eu, .int .i64 en, .slice a eb.length cap, .int .u64 eg]] w' fun r w'' => r = .returned (.tuple #[.slice none 0 0, .int .i64 1]) ∧ Below w'.heap.size w' w'') := B
  obtain ⟨w1, hw1⟩ : ∃ w1, w1 = (w.alloc (.cells #[.int .i64 ew, .int .i64 ei, .int .u64 ep, .int .i64 et, .int .i64 eu, .int .i64 en, .slice a eb.length cap, .int .u64 eg] 47)).alloc (.cells #[.int .i64 0, .int .i64 0, .int .u64 0, .int .i64 0, .int .i64 0, .int .i64 0, .slice none 0 0, .int .u64 0] 47) := ⟨_, rfl⟩
  have HB1 : Hid (Below w.heap.size w w1) := by show Below _ _ _; rw [hw1]; exact balloc (balloc (Below.refl _ _) _) _
  have HX1 : Hid (Blk w1 w.heap.size 47 [.int .i64 ew, .int .i64 ei, .int .u64 ep, .int .i64 et, .int .i64 eu, .int .i64 en, .slice a eb.length cap, .int .u64 eg]) := by show Blk _ _ _ _; rw [hw1]; exact (blk_new w [.int .i64 ew, .int .i64 ei, .int .u64 ep, .int .i64 et, .int .i64 eu, .int .i64 en, .slice a eb.length cap, .int .u64 eg] 47).alloc _
  have HZ1 : Hid (Blk w1 (w.heap.size + 1) 47 [.int .i64 0, .int .i64 0, .int .u64 0, .int .i64 0, .int .i64 0, .int .i64 0, .slice none 0 0, .int .u64 0]) := by
    show Blk _ _ _ _
    rw [hw1]
    have := blk_new (w.alloc (.cells #[.int .i64 ew, .int .i64 ei, .int .u64 ep, .int .i64 et, .int .i64 eu, .int .i64 en, .slice a eb.length cap, .int .u64 eg] 47)) [.int .i64 0, .int .i64 0, .int .u64 0, .int .i64 0, .int .i64 0, .int .i64 0, .slice none 0 0, .int .u64 0] 47
    simpa using this
  clear B hv hr
  go_enter Try.func45, Try.ntmps45
  go_upto_region 1 with fail
  rw [← hw1]
  obtain ⟨n, hn⟩ : ∃ n, n = w.heap.size := ⟨_, rfl⟩
  rw [← hn] at HX1 HZ1 ⊢
  have HNN : Hid (n = w.heap.size) := hn
  clear hw1 hn
  have x0 := HX1.out.cell 0 _ rfl
  have x1 := HX1.out.cell 1 _ rfl
  have x2 := HX1.out.cell 2 _ rfl
  have x3 := HX1.out.cell 3 _ rfl
  have x4 := HX1.out.cell 4 _ rfl
  have x5 := HX1.out.cell 5 _ rfl
  have x6 := HX1.out.cell 6 _ rfl
  have x7 := HX1.out.cell 7 _ rfl
  go_wp2_with (go_at_call 64; go_must (refine (HBy.out w1 (HV.out.below HB1.out)).mono ?_; rintro r w2 ⟨rfl, hb2⟩; have Y := HZ1.out.below hb2; have y0 := Y.cell 0 _ rfl; have y1 := Y.cell 1 _ rfl; have y2 := Y.cell 2 _ rfl; have y3 := Y.cell 3 _ rfl; have y4 := Y.cell 4 _ rfl; have y5 := Y.cell 5 _ rfl; have y6 := Y.cell 6 _ rfl; have y7 := Y.cell 7 _ rfl; have f0 := Y.frozen 0; have f1 := Y.frozen 1; have f2 := Y.frozen 2; have f3 := Y.frozen 3; have f4 := Y.frozen 4; have f5 := Y.frozen 5; have f6 := Y.frozen 6; have f7 := Y.frozen 7))
  refine bodyPost_ret (v := .tuple #[.agg #[.int .i64 0, .int .i64 0, .int .u64 0, .int .i64 0, .int .i64 0, .int .i64 0, .slice none 0 0, .int .u64 0], .int .i64 1]) ?_ rfl ⟨rfl, ?_⟩
  · rw [results_cell_tmp rfl]
    go_simp
  · exact bgrown (bnext HB1.out hb2) (by have := HNN.out; omega) (grown_set8 _ _ _ _ _ _ _ _ _ _)

theorem signE_nil (w : World) (s : Int) (e : Ent) (v : Value) (he : EOk e) (hv : Rd w v e.b) (hb : e.b.length ≤ 90000) (hr : rightB e = true) :
    Calls Try.prog 45 #[.pointer none, .int .u64 s, ev e v] w fun r w' => r = .returned (.tuple #[ev zeroE (.slice none 0 0), .int .i64 23]) ∧ Below w.heap.size w w' := by
  have HV : Hid (Rd w v e.b) := hv
  have B := fun w' (h : Rd w' v e.b) => textF_yes w' e v he h (by omega) hr
  generalize textL e = L at *
  obtain ⟨a, cap, rfl⟩ := hv.len
  obtain ⟨ew, ei, ep, et, eu, en, eb, eg⟩ := e
  unfold ev at *
  dsimp only at *
  have HBy : Hid (∀ w', Rd w' (.slice a eb.length cap) eb → Calls Try.prog 64 #[.agg #[.int .i64 ew, .int .i64 ei, .int .u64 ep, .int .i64 et, .int .i64 eu, .int .i64 en, .slice a eb.length cap, .int .u64 eg]] w' fun r w'' => ∃ x, r = .returned (.tuple #[x, .int .i64 0]) ∧ Own w'.heap.size 5 w'' x L ∧ Below w'.heap.size w' w'') := B
  obtain ⟨w1, hw1⟩ : ∃ w1, w1 = (w.alloc (.cells #[.int .i64 ew, .int .i64 ei, .int .u64 ep, .int .i64 et, .int .i64 eu, .int .i64 en, .slice a eb.length cap, .int .u64 eg] 47)).alloc (.cells #[.int .i64 0, .int .i64 0, .int .u64 0, .int .i64 0, .int .i64 0, .int .i64 0, .slice none 0 0, .int .u64 0] 47) := ⟨_, rfl⟩
  have HB1 : Hid (Below w.heap.size w w1) := by show Below _ _ _; rw [hw1]; exact balloc (balloc (Below.refl _ _) _) _
  have HX1 : Hid (Blk w1 w.heap.size 47 [.int .i64 ew, .int .i64 ei, .int .u64 ep, .int .i64 et, .int .i64 eu, .int .i64 en, .slice a eb.length cap, .int .u64 eg]) := by show Blk _ _ _ _; rw [hw1]; exact (blk_new w [.int .i64 ew, .int .i64 ei, .int .u64 ep, .int .i64 et, .int .i64 eu, .int .i64 en, .slice a eb.length cap, .int .u64 eg] 47).alloc _
  have HZ1 : Hid (Blk w1 (w.heap.size + 1) 47 [.int .i64 0, .int .i64 0, .int .u64 0, .int .i64 0, .int .i64 0, .int .i64 0, .slice none 0 0, .int .u64 0]) := by
    show Blk _ _ _ _
    rw [hw1]
    have := blk_new (w.alloc (.cells #[.int .i64 ew, .int .i64 ei, .int .u64 ep, .int .i64 et, .int .i64 eu, .int .i64 en, .slice a eb.length cap, .int .u64 eg] 47)) [.int .i64 0, .int .i64 0, .int .u64 0, .int .i64 0, .int .i64 0, .int .i64 0, .slice none 0 0, .int .u64 0] 47
    simpa using this
  clear B hv hr he
  go_enter Try.func45, Try.ntmps45
  go_upto_region 1 with fail
  rw [← hw1]
  obtain ⟨n, hn⟩ : ∃ n, n = w.heap.size := ⟨_, rfl⟩
  rw [← hn] at HX1 HZ1 ⊢
  have HNN : Hid (n = w.heap.size) := hn
  clear hw1 hn
  have x0 := HX1.out.cell 0 _ rfl
  have x1 := HX1.out.cell 1 _ rfl
  have x2 := HX1.out.cell 2 _ rfl
  have x3 := HX1.out.cell 3 _ rfl
  have x4 := HX1.out.cell 4 _ rfl
  have x5 := HX1.out.cell 5 _ rfl
  have x6 := HX1.out.cell 6 _ rfl
  have x7 := HX1.out.cell 7 _ rfl
  go_wp2_with (first
    | (go_at_call 64; go_must (refine (HBy.out w1 (HV.out.below HB1.out)).mono ?_; rintro r w2 ⟨x, rfl, ho2, hb2⟩; obtain ⟨ax, cx, hx⟩ := ho2.rd.len; subst hx; have Y := HZ1.out.below hb2; have y0 := Y.cell 0 _ rfl; have y1 := Y.cell 1 _ rfl; have y2 := Y.cell 2 _ rfl; have y3 := Y.cell 3 _ rfl; have y4 := Y.cell 4 _ rfl; have y5 := Y.cell 5 _ rfl; have y6 := Y.cell 6 _ rfl; have y7 := Y.cell 7 _ rfl; have f0 := Y.frozen 0; have f1 := Y.frozen 1; have f2 := Y.frozen 2; have f3 := Y.frozen 3; have f4 := Y.frozen 4; have f5 := Y.frozen 5; have f6 := Y.frozen 6; have f7 := Y.frozen 7))
    | (go_at_call 65; go_must (refine (sign_nil w2 s _).mono ?_; rintro r w3 ⟨rfl, hw3⟩; replace hw3 := hw3.symm; subst hw3)))
  refine bodyPost_ret (v := .tuple #[.agg #[.int .i64 0, .int .i64 0, .int .u64 0, .int .i64 0, .int .i64 0, .int .i64 0, .slice none 0 0, .int .u64 0], .int .i64 23]) ?_ rfl ⟨rfl, ?_⟩
  · rw [results_cell_tmp rfl]
    go_simp
  · exact bgrown (bnext HB1.out hb2) (by have := HNN.out; omega) (grown_set8 _ _ _ _ _ _ _ _ _ _)

theorem signE_bad (w : World) (b : Nat) (ft : List Nat) (S : St) (h : Rep w b ft S) (hN : S.rows.length + 1 < 1000000000) (s : Int) (hs : U64 s) (e : Ent) (v : Value) (he : EOk e) (hv : Rd w v e.b) (hb : e.b.length ≤ 90000) (hr : rightB e = true) (hk : (S.sign s (textL e)).1.2 ≠ 0) :
    Calls Try.prog 45 #[ptr b, .int .u64 s, ev e v] w fun r w' => r = .returned (.tuple #[ev zeroE (.slice none 0 0), .int .i64 (S.sign s (textL e)).1.2]) ∧ Left w b ft (S.sign s (textL e)).2 w' := by
  have HV : Hid (Rd w v e.b) := hv
  have HP : Hid (Rep w b ft S) := h
  have HRM : Hid (∀ k ∈ ft, k < w.heap.size) := h.room
  have B := fun w' (h : Rd w' v e.b) => textF_yes w' e v he h (by omega) hr
  have hlen : (textL e).length ≤ 100000 := by have h1 := text_len he (by omega); omega
  have SG := fun w' x (h : Rep w' b ft S) (hx : Rd w' x (textL e)) => sign_any w' b ft S h hN s hs x (textL e) hx (by omega)
  generalize textL e = L at *
  generalize S.sign s L = t at *
  obtain ⟨⟨g, k⟩, S'⟩ := t
  dsimp only at *
  have HSG : Hid (∀ w' x, Rep w' b ft S → Rd w' x L → Calls Try.prog 65 #[ptr b, .int .u64 s, x] w' fun e w'' => e = .returned (.tuple #[.int .u64 g, .int .i64 k]) ∧ Left w' b ft S' w'') := SG
  have hk' : (k != 0) = true := by simpa using hk
  obtain ⟨a, cap, rfl⟩ := hv.len
  obtain ⟨ew, ei, ep, et, eu, en, eb, eg⟩ := e
  unfold ev at *
  dsimp only at *
  have HBy : Hid (∀ w', Rd w' (.slice a eb.length cap) eb → Calls Try.prog 64 #[.agg #[.int .i64 ew, .int .i64 ei, .int .u64 ep, .int .i64 et, .int .i64 eu, .int .i64 en, .slice a eb.length cap, .int .u64 eg]] w' fun r w'' => ∃ x, r = .returned (.tuple #[x, .int .i64 0]) ∧ Own w'.heap.size 5 w'' x L ∧ Below w'.heap.size w' w'') := B
  obtain ⟨w1, hw1⟩ : ∃ w1, w1 = (w.alloc (.cells #[.int .i64 ew, .int .i64 ei, .int .u64 ep, .int .i64 et, .int .i64 eu, .int .i64 en, .slice a eb.length cap, .int .u64 eg] 47)).alloc (.cells #[.int .i64 0, .int .i64 0, .int .u64 0, .int .i64 0, .int .i64 0, .int .i64 0, .slice none 0 0, .int .u64 0] 47) := ⟨_, rfl⟩
  have HB1 : Hid (Below w.heap.size w w1) := by show Below _ _ _; rw [hw1]; exact balloc (balloc (Below.refl _ _) _) _
  have HX1 : Hid (Blk w1 w.heap.size 47 [.int .i64 ew, .int .i64 ei, .int .u64 ep, .int .i64 et, .int .i64 eu, .int .i64 en, .slice a eb.length cap, .int .u64 eg]) := by show Blk _ _ _ _; rw [hw1]; exact (blk_new w [.int .i64 ew, .int .i64 ei, .int .u64 ep, .int .i64 et, .int .i64 eu, .int .i64 en, .slice a eb.length cap, .int .u64 eg] 47).alloc _
  have HZ1 : Hid (Blk w1 (w.heap.size + 1) 47 [.int .i64 0, .int .i64 0, .int .u64 0, .int .i64 0, .int .i64 0, .int .i64 0, .slice none 0 0, .int .u64 0]) := by
    show Blk _ _ _ _
    rw [hw1]
    have := blk_new (w.alloc (.cells #[.int .i64 ew, .int .i64 ei, .int .u64 ep, .int .i64 et, .int .i64 eu, .int .i64 en, .slice a eb.length cap, .int .u64 eg] 47)) [.int .i64 0, .int .i64 0, .int .u64 0, .int .i64 0, .int .i64 0, .int .i64 0, .slice none 0 0, .int .u64 0] 47
    simpa using this
  clear B hv hr he SG h hk
  go_enter Try.func45, Try.ntmps45
  go_upto_region 1 with fail
  rw [← hw1]
  obtain ⟨n, hn⟩ : ∃ n, n = w.heap.size := ⟨_, rfl⟩
  rw [← hn] at HX1 HZ1 ⊢
  have HNN : Hid (n = w.heap.size) := hn
  clear hw1 hn
  have x0 := HX1.out.cell 0 _ rfl
  have x1 := HX1.out.cell 1 _ rfl
  have x2 := HX1.out.cell 2 _ rfl
  have x3 := HX1.out.cell 3 _ rfl
  have x4 := HX1.out.cell 4 _ rfl
  have x5 := HX1.out.cell 5 _ rfl
  have x6 := HX1.out.cell 6 _ rfl
  have x7 := HX1.out.cell 7 _ rfl
  go_wp2_with (first
    | (go_at_call 64; go_must (refine (HBy.out w1 (HV.out.below HB1.out)).mono ?_; rintro r w2 ⟨x, rfl, ho2, hb2⟩; obtain ⟨ax, cx, hx⟩ := ho2.rd.len; subst hx))
    | (go_at_call 65; go_must (refine (HSG.out w2 _ (HP.out.below (bnext HB1.out hb2)) ho2.rd).mono ?_; rintro r w3 ⟨rfl, hl3⟩; have Y2 := HZ1.out.below hb2; have Y := Y2.block (hl3.2.block _ Y2.lt (fun e => by have := HRM.out _ e; have := HNN.out; omega)); have y0 := Y.cell 0 _ rfl; have y1 := Y.cell 1 _ rfl; have y2 := Y.cell 2 _ rfl; have y3 := Y.cell 3 _ rfl; have y4 := Y.cell 4 _ rfl; have y5 := Y.cell 5 _ rfl; have y6 := Y.cell 6 _ rfl; have y7 := Y.cell 7 _ rfl; have f0 := Y.frozen 0; have f1 := Y.frozen 1; have f2 := Y.frozen 2; have f3 := Y.frozen 3; have f4 := Y.frozen 4; have f5 := Y.frozen 5; have f6 := Y.frozen 6; have f7 := Y.frozen 7)))
  refine bodyPost_ret (v := .tuple #[.agg #[.int .i64 0, .int .i64 0, .int .u64 0, .int .i64 0, .int .i64 0, .int .i64 0, .slice none 0 0, .int .u64 0], .int .i64 k]) ?_ rfl ⟨rfl, ?_⟩
  · rw [results_cell_tmp rfl]
    go_simp
  · exact hl3.stores (bnext HB1.out hb2) HRM.out (by have := HNN.out; omega) (Nat.lt_of_lt_of_le HZ1.out.lt hb2.size) (grown_set8 _ _ _ _ _ _ _ _ _ _)

theorem signE_yes (w : World) (b : Nat) (ft : List Nat) (S : St) (h : Rep w b ft S) (hN : S.rows.length + 1 < 1000000000) (s : Int) (hs : U64 s) (e : Ent) (v : Value) (he : EOk e) (hv : Rd w v e.b) (hst : ∀ w', Turn ft w w' → Rd w' v e.b) (hb : e.b.length ≤ 90000) (hr : rightB e = true) (hk : (S.sign s (textL e)).1.2 = 0) :
    Calls Try.prog 45 #[ptr b, .int .u64 s, ev e v] w fun r w' => ∃ x, r = .returned (.tuple #[ev { e with g := (S.sign s (textL e)).1.1 } x, .int .i64 0]) ∧ LeftB w b ft (S.sign s (textL e)).2 w' x e.b := by
  have HV : Hid (Rd w v e.b) := hv
  have HST : Hid (∀ w', Turn ft w w' → Rd w' v e.b) := hst
  have HP : Hid (Rep w b ft S) := h
  have HRM : Hid (∀ k ∈ ft, k < w.heap.size) := h.room
  have B := fun w' (h : Rd w' v e.b) => textF_yes w' e v he h (by omega) hr
  have hlen : (textL e).length ≤ 100000 := by have h1 := text_len he (by omega); omega
  have SG := fun w' x (h : Rep w' b ft S) (hx : Rd w' x (textL e)) => sign_any w' b ft S h hN s hs x (textL e) hx (by omega)
  generalize textL e = L at *
  generalize S.sign s L = t at *
  obtain ⟨⟨g, k⟩, S'⟩ := t
  dsimp only at *
  subst hk
  have HSG : Hid (∀ w' x, Rep w' b ft S → Rd w' x L → Calls Try.prog 65 #[ptr b, .int .u64 s, x] w' fun e w'' => e = .returned (.tuple #[.int .u64 g, .int .i64 0]) ∧ Left w' b ft S' w'') := SG
  obtain ⟨a, cap, rfl⟩ := hv.len
  obtain ⟨ew, ei, ep, et, eu, en, eb, eg⟩ := e
  unfold ev at *
  dsimp only at *
  have HBy : Hid (∀ w', Rd w' (.slice a eb.length cap) eb → Calls Try.prog 64 #[.agg #[.int .i64 ew, .int .i64 ei, .int .u64 ep, .int .i64 et, .int .i64 eu, .int .i64 en, .slice a eb.length cap, .int .u64 eg]] w' fun r w'' => ∃ x, r = .returned (.tuple #[x, .int .i64 0]) ∧ Own w'.heap.size 5 w'' x L ∧ Below w'.heap.size w' w'') := B
  obtain ⟨w1, hw1⟩ : ∃ w1, w1 = (w.alloc (.cells #[.int .i64 ew, .int .i64 ei, .int .u64 ep, .int .i64 et, .int .i64 eu, .int .i64 en, .slice a eb.length cap, .int .u64 eg] 47)).alloc (.cells #[.int .i64 0, .int .i64 0, .int .u64 0, .int .i64 0, .int .i64 0, .int .i64 0, .slice none 0 0, .int .u64 0] 47) := ⟨_, rfl⟩
  have HB1 : Hid (Below w.heap.size w w1) := by show Below _ _ _; rw [hw1]; exact balloc (balloc (Below.refl _ _) _) _
  have HX1 : Hid (Blk w1 w.heap.size 47 [.int .i64 ew, .int .i64 ei, .int .u64 ep, .int .i64 et, .int .i64 eu, .int .i64 en, .slice a eb.length cap, .int .u64 eg]) := by show Blk _ _ _ _; rw [hw1]; exact (blk_new w [.int .i64 ew, .int .i64 ei, .int .u64 ep, .int .i64 et, .int .i64 eu, .int .i64 en, .slice a eb.length cap, .int .u64 eg] 47).alloc _
  have HZ1 : Hid (Blk w1 (w.heap.size + 1) 47 [.int .i64 0, .int .i64 0, .int .u64 0, .int .i64 0, .int .i64 0, .int .i64 0, .slice none 0 0, .int .u64 0]) := by
    show Blk _ _ _ _
    rw [hw1]
    have := blk_new (w.alloc (.cells #[.int .i64 ew, .int .i64 ei, .int .u64 ep, .int .i64 et, .int .i64 eu, .int .i64 en, .slice a eb.length cap, .int .u64 eg] 47)) [.int .i64 0, .int .i64 0, .int .u64 0, .int .i64 0, .int .i64 0, .int .i64 0, .slice none 0 0, .int .u64 0] 47
    simpa using this
  clear B hv hr he SG h hst
  go_enter Try.func45, Try.ntmps45
  go_upto_region 1 with fail
  rw [← hw1]
  obtain ⟨n, hn⟩ : ∃ n, n = w.heap.size := ⟨_, rfl⟩
  rw [← hn] at HX1 HZ1 ⊢
  have HNN : Hid (n = w.heap.size) := hn
  clear hw1 hn
  have x0 := HX1.out.cell 0 _ rfl
  have x1 := HX1.out.cell 1 _ rfl
  have x2 := HX1.out.cell 2 _ rfl
  have x3 := HX1.out.cell 3 _ rfl
  have x4 := HX1.out.cell 4 _ rfl
  have x5 := HX1.out.cell 5 _ rfl
  have x6 := HX1.out.cell 6 _ rfl
  have x7 := HX1.out.cell 7 _ rfl
  go_wp2_with (first
    | (go_at_call 64; go_must (refine (HBy.out w1 (HV.out.below HB1.out)).mono ?_; rintro r w2 ⟨x, rfl, ho2, hb2⟩; obtain ⟨ax, cx, hx⟩ := ho2.rd.len; subst hx))
    | (go_at_call 65; go_must (refine (HSG.out w2 _ (HP.out.below (bnext HB1.out hb2)) ho2.rd).mono ?_; rintro r w3 ⟨rfl, hl3⟩; have Y2 := HX1.out.below hb2; have Y3 := Y2.block (hl3.2.block _ Y2.lt (fun e => by have := HRM.out _ e; have := HNN.out; omega)); have y6 := Y3.cell 6 _ rfl))
    | (go_at_call 66; go_must (refine (bclone_any _ eb w3 (HST.out w3 ((Turn.of_below (bnext HB1.out hb2)).same hl3.2)) (by omega)).mono ?_; rintro r w4 ⟨x4, rfl, ho4, hb4⟩; obtain ⟨a4, c4, hx⟩ := ho4.rd.len; subst hx; have Z2 := HZ1.out.below hb2; have Z3 := Z2.block (hl3.2.block _ Z2.lt (fun e => by have := HRM.out _ e; have := HNN.out; omega)); have Z := Z3.below hb4; have Y := Y3.below hb4; have p0 := Y.cell 0 _ rfl; have p1 := Y.cell 1 _ rfl; have p2 := Y.cell 2 _ rfl; have p3 := Y.cell 3 _ rfl; have p4 := Y.cell 4 _ rfl; have p5 := Y.cell 5 _ rfl; have p6 := Y.cell 6 _ rfl; have p7 := Y.cell 7 _ rfl; have q0 := Y.frozen 0; have q1 := Y.frozen 1; have q2 := Y.frozen 2; have q3 := Y.frozen 3; have q4 := Y.frozen 4; have q5 := Y.frozen 5; have q6 := Y.frozen 6; have q7 := Y.frozen 7; have z0 := Z.cell 0 _ rfl; have z1 := Z.cell 1 _ rfl; have z2 := Z.cell 2 _ rfl; have z3 := Z.cell 3 _ rfl; have z4 := Z.cell 4 _ rfl; have z5 := Z.cell 5 _ rfl; have z6 := Z.cell 6 _ rfl; have z7 := Z.cell 7 _ rfl; have f0 := Z.frozen 0; have f1 := Z.frozen 1; have f2 := Z.frozen 2; have f3 := Z.frozen 3; have f4 := Z.frozen 4; have f5 := Z.frozen 5; have f6 := Z.frozen 6; have f7 := Z.frozen 7)))
  have G1 := grown_two (w := w4) (c := n) (.slice a4 eb.length c4) (.int .u64 g) 6 7
  have R1 := ho4.rd.pastB Y (by unfold NoByte; simp) G1
  have Z' := Z.block (G1.block _ Z.lt (fun e => by have := Option.some.inj e; omega))
  have TW : Hid (∀ k ∈ [n, n + 1], w.heap.size ≤ k ∧ k < w2.heap.size) := fun k hk => by
    have h1 := Nat.lt_of_lt_of_le HZ1.out.lt hb2.size
    have h2 := HNN.out
    simp at hk
    omega
  refine bodyPost_ret (v := .tuple #[.agg #[.int .i64 ew, .int .i64 ei, .int .u64 ep, .int .i64 et, .int .i64 eu, .int .i64 en, .slice a4 eb.length c4, .int .u64 g], .int .i64 0]) ?_ rfl ⟨_, rfl, ?_⟩
  · rw [results_cell_tmp rfl]
    go_simp
  · have G2 := grown_set8 ((w4.setCell ⟨n, 6, none⟩ (.slice a4 eb.length c4)).setCell ⟨n, 7, none⟩ (.int .u64 g)) (n + 1) (.int .i64 ew) (.int .i64 ei) (.int .u64 ep) (.int .i64 et) (.int .i64 eu) (.int .i64 en) (.slice a4 eb.length c4) (.int .u64 g)
    exact (LeftB.mk' hl3 ho4 hb4).stores (bnext HB1.out hb2) HRM.out [n, n + 1] TW.out ((Turn.of_grown G1 (by simp)).same (Turn.of_grown G2 (by simp))) (R1.pastB Z' zeroNB G2)
end Go.Proofs.Yteedjdflojfhmaa
