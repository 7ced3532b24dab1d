/-
  The law's turned: an entry with a field that is another one.
  The program's oracle and the reference's beside each other: the reference's may lack the last one's sum; what is issued; what is turned is never accepted; both games' beginning.
  Program and reference play one game: its beginning, one Issue, Whole of both.
-/
import Derived.Test.YteedjdflojfhmaaRWhole
import Derived.Laws.BitsAllLaws
import Derived.Test.YteedjdflojfhmaaRIss
namespace Go.Proofs.Yteedjdflojfhmaa
section
set_option linter.unusedVariables false
set_option linter.unusedSimpArgs false
set_option synthInstance.maxSize 20000
set_option maxHeartbeats 2000000
set_option maxRecDepth 20000
open Go.RowKit Go.Maps

/-- The number with its last bit turned. -/
def xr (k : IntKind) (x : Int) : Int := bits .xor k x 1
theorem xor_one (x : Nat) : x ^^^ 1 ≠ x := by
  intro h
  have := congrArg (x ^^^ ·) h
  simp [← Nat.xor_assoc] at this
theorem xr_u64 {x : Int} (h : U64 x) : U64 (xr .u64 x) ∧ xr .u64 x ≠ x := by
  unfold U64 at *
  obtain ⟨n, rfl⟩ : ∃ n : Nat, x = n := ⟨x.toNat, by omega⟩
  have h1 : xr .u64 (n : Int) = ((n ^^^ 1 : Nat) : Int) := bits_xor_u64_nat n 1 (by omega) (by omega)
  have h2 : n ^^^ 1 < 2 ^ 64 := Nat.xor_lt_two_pow (by omega) (by omega)
  have h3 := xor_one n
  rw [h1]
  refine ⟨by omega, by omega⟩
theorem xr_i64 {x : Int} (h0 : -1 ≤ x) (h1 : x < 9223372036854775808) : I64 (xr .i64 x) ∧ xr .i64 x ≠ x := by
  by_cases hm : x = -1
  · subst hm
    have : xr .i64 (-1) = -2 := by decide
    rw [this]
    unfold I64
    omega
  obtain ⟨n, rfl⟩ : ∃ n : Nat, x = n := ⟨x.toNat, by omega⟩
  have h2 : n ^^^ 1 < 2 ^ 63 := Nat.xor_lt_two_pow (by omega) (by omega)
  have h3 := xor_one n
  have h4 : xr .i64 (n : Int) = ((n ^^^ 1 : Nat) : Int) := by
    show IntKind.i64.wrap ((BitVec.ofInt 64 (n : Int) ^^^ BitVec.ofInt 64 ((1 : Nat) : Int)).toNat : Int) = _
    have a1 : (BitVec.ofInt 64 (n : Int)).toNat = n := by
      rw [BitVec.ofInt_natCast, BitVec.toNat_ofNat]; exact Nat.mod_eq_of_lt (by omega)
    have a2 : (BitVec.ofInt 64 ((1 : Nat) : Int)).toNat = 1 := by
      rw [BitVec.ofInt_natCast, BitVec.toNat_ofNat]
    rw [BitVec.toNat_xor, a1, a2, IntKind.wrap_i64]
    omega
  rw [h4]
  unfold I64
  refine ⟨by omega, by omega⟩

def turnE (e : Ent) (f : Int) : Ent :=
  if f = 0 then { e with g := xr .u64 e.g } else if f = 1 then { e with b := 7 :: e.b } else if f = 2 then { e with p := xr .u64 e.p } else if f = 3 then { e with i := xr .i64 e.i }
  else if f = 4 then { e with w := xr .i64 e.w } else if f = 5 then { e with n := xr .i64 e.n } else e

theorem turned_body (w : World) (e : Ent) (v : Value) (hv : Rd w v e.b) (hl : e.b.length ≤ 90000) :
    Calls Try.prog 22 #[ev e v, .int .i64 1] w fun r w' => ∃ y, r = .returned (ev { e with b := 7 :: e.b } y) ∧ Own w.heap.size 5 w' y (7 :: e.b) ∧ Below w.heap.size w w' := by
  have HV : Hid (Rd w v e.b) := hv
  obtain ⟨a, cap, rfl⟩ := hv.len
  obtain ⟨ew, ei, ep, et, eu, en, eb, eg⟩ := e
  unfold ev
  dsimp only at *
  obtain ⟨w1, hw1⟩ : ∃ w1, w1 = (w.alloc (.cells #[.int .i64 ew, .int .i64 ei, .int .u64 ep, .int .i64 et, .int .i64 eu, .int .i64 en, .slice a eb.length cap, .int .u64 eg] 47)).alloc (.cells #[.int .i64 0, .int .i64 0, .int .u64 0, .int .i64 0, .int .i64 0, .int .i64 0, .slice none 0 0, .int .u64 0] 47) := ⟨_, rfl⟩
  have HB1 : Hid (Below w.heap.size w w1) := by show Below _ _ _; rw [hw1]; exact balloc (balloc (Below.refl _ _) _) _
  have HX1 : Hid (Blk w1 w.heap.size 47 [.int .i64 ew, .int .i64 ei, .int .u64 ep, .int .i64 et, .int .i64 eu, .int .i64 en, .slice a eb.length cap, .int .u64 eg]) := by show Blk _ _ _ _; rw [hw1]; exact (blk_new w [.int .i64 ew, .int .i64 ei, .int .u64 ep, .int .i64 et, .int .i64 eu, .int .i64 en, .slice a eb.length cap, .int .u64 eg] 47).alloc _
  have HZ1 : Hid (Blk w1 (w.heap.size + 1) 47 [.int .i64 0, .int .i64 0, .int .u64 0, .int .i64 0, .int .i64 0, .int .i64 0, .slice none 0 0, .int .u64 0]) := by
    show Blk _ _ _ _
    rw [hw1]
    have := blk_new (w.alloc (.cells #[.int .i64 ew, .int .i64 ei, .int .u64 ep, .int .i64 et, .int .i64 eu, .int .i64 en, .slice a eb.length cap, .int .u64 eg] 47)) [.int .i64 0, .int .i64 0, .int .u64 0, .int .i64 0, .int .i64 0, .int .i64 0, .slice none 0 0, .int .u64 0] 47
    simpa using this
  clear hv
  go_enter Try.func22, Try.ntmps22
  go_upto_region 5 with fail
  rw [← hw1]
  obtain ⟨n, hn⟩ : ∃ n, n = w.heap.size := ⟨_, rfl⟩
  rw [← hn] at HX1 HZ1 ⊢
  have HNN : Hid (n = w.heap.size) := hn
  clear hw1 hn
  have HR1 : Hid (Own w1.heap.size 5 (w1.alloc (.cells #[.int .u8 7] 5)) (.slice (some ⟨w1.heap.size, 0, none⟩) 1 1) [7]) := own_one w1 7 5 (by omega)
  have HV1 : Hid (Rd (w1.alloc (.cells #[.int .u8 7] 5)) (.slice a eb.length cap) eb) := (show Rd _ _ _ from HV.out.below (balloc HB1.out _))
  have q6 := (HX1.out.alloc (.cells #[.int .u8 7] 5)).cell 6 _ rfl
  go_upto_region 14 with (at_builtin; go_must (refine wpList_append_cells 43 5 byteTy rfl (.tmp 14) (.tmp 16) rfl w1.heap.size _ [7] rfl HR1.out _ eb rfl HV1.out (by simp; omega) (by simp) ?_; intro v2 w3 ho3 hg3; obtain ⟨a3, c3, hv3⟩ := ho3.rd.len; subst hv3; have HX3 := (HX1.out.alloc (.cells #[.int .u8 7] 5)).past hg3 (by have := HX1.out.lt; show n ≠ w1.heap.size; omega); have HZ3 := (HZ1.out.alloc (.cells #[.int .u8 7] 5)).past hg3 (by have := HZ1.out.lt; show n + 1 ≠ w1.heap.size; omega); have x0 := HX3.cell 0 _ rfl; have x1 := HX3.cell 1 _ rfl; have x2 := HX3.cell 2 _ rfl; have x3 := HX3.cell 3 _ rfl; have x4 := HX3.cell 4 _ rfl; have x5 := HX3.cell 5 _ rfl; have x6 := HX3.cell 6 _ rfl; have x7 := HX3.cell 7 _ rfl; have y0 := HX3.frozen 0; have y1 := HX3.frozen 1; have y2 := HX3.frozen 2; have y3 := HX3.frozen 3; have y4 := HX3.frozen 4; have y5 := HX3.frozen 5; have y6 := HX3.frozen 6; have y7 := HX3.frozen 7; have z0 := HZ3.cell 0 _ rfl; have z1 := HZ3.cell 1 _ rfl; have z2 := HZ3.cell 2 _ rfl; have z3 := HZ3.cell 3 _ rfl; have z4 := HZ3.cell 4 _ rfl; have z5 := HZ3.cell 5 _ rfl; have z6 := HZ3.cell 6 _ rfl; have z7 := HZ3.cell 7 _ rfl; have f0 := HZ3.frozen 0; have f1 := HZ3.frozen 1; have f2 := HZ3.frozen 2; have f3 := HZ3.frozen 3; have f4 := HZ3.frozen 4; have f5 := HZ3.frozen 5; have f6 := HZ3.frozen 6; have f7 := HZ3.frozen 7))
  have HO3 : Hid (Own w1.heap.size 5 w3 (.slice a3 ([7] ++ eb).length c3) ([7] ++ eb)) := ho3
  have HG3 : Hid ((w1.alloc (.cells #[.int .u8 7] 5)).grownBy w3 (some w1.heap.size)) := hg3
  clear ho3 hg3 HX3 HZ3
  go_wp2
  have hlen : ([7] ++ eb).length = (7 :: eb).length := rfl
  have G1 : w3.grownBy (w3.setCell ⟨n, 6, none⟩ (.slice a3 ([7] ++ eb).length c3)) (some n) := grown_setCell _ _ _ _
  have G2 := grown_set8 (w3.setCell ⟨n, 6, none⟩ (.slice a3 ([7] ++ eb).length c3)) (n + 1) (.int .i64 ew) (.int .i64 ei) (.int .u64 ep) (.int .i64 et) (.int .i64 eu) (.int .i64 en) (.slice a3 ([7] ++ eb).length c3) (.int .u64 eg)
  have HB3 : Below w.heap.size w w3 := bgrown (balloc HB1.out _) HB1.out.size HG3.out
  have HN1 := HZ1.out.lt
  refine bodyPost_ret (v := .agg #[.int .i64 ew, .int .i64 ei, .int .u64 ep, .int .i64 et, .int .i64 eu, .int .i64 en, .slice a3 ([7] ++ eb).length c3, .int .u64 eg]) ?_ rfl ⟨.slice a3 ([7] ++ eb).length c3, rfl, ?_, ?_⟩
  · rw [results_cell1 rfl]
    go_simp
  · have h1 := own_past (own_past HO3.out (c := n) (by omega) G1) (c := n + 1) (by omega) G2
    have h2 := h1.lower HB1.out.size
    first | exact h2 | simpa using h2
  · have h1 := bgrown (bgrown HB3 (by have := HNN.out; omega) G1) (by have := HNN.out; omega) G2
    first | exact h1 | simpa using h1

theorem turned_plain (w : World) (e : Ent) (v : Value) (hv : Rd w v e.b) (f : Int) (hf : f ≠ 1) :
    Calls Try.prog 22 #[ev e v, .int .i64 f] w fun r w' => r = .returned (ev (turnE e f) v) ∧ Below w.heap.size w w' := by
  obtain ⟨a, cap, rfl⟩ := hv.len
  obtain ⟨ew, ei, ep, et, eu, en, eb, eg⟩ := e
  have f1 : (f == 1) = false := by simpa using hf
  unfold turnE
  by_cases h0 : f = 0
  · subst h0
    unfold ev xr
    dsimp only at *
    clear hv
    go_enter Try.func22, Try.ntmps22
    go_wp2
    refine bodyPost_ret (v := .agg #[.int .i64 ew, .int .i64 ei, .int .u64 ep, .int .i64 et, .int .i64 eu, .int .i64 en, .slice a eb.length cap, .int .u64 (bits .xor .u64 eg 1)]) ?_ rfl ⟨rfl, balloc (balloc (Below.refl _ _) _) _⟩
    rw [results_cell1 rfl]
    go_simp
  rw [if_neg h0, if_neg hf]
  have f0 : (f == 0) = false := by simpa using h0
  by_cases h2 : f = 2
  · subst h2
    unfold ev xr
    dsimp only at *
    clear hv
    go_enter Try.func22, Try.ntmps22
    go_wp2
    refine bodyPost_ret (v := .agg #[.int .i64 ew, .int .i64 ei, .int .u64 (bits .xor .u64 ep 1), .int .i64 et, .int .i64 eu, .int .i64 en, .slice a eb.length cap, .int .u64 eg]) ?_ rfl ⟨rfl, balloc (balloc (Below.refl _ _) _) _⟩
    rw [results_cell1 rfl]
    go_simp
  rw [if_neg h2]
  have f2 : (f == 2) = false := by simpa using h2
  by_cases h3 : f = 3
  · subst h3
    unfold ev xr
    dsimp only at *
    clear hv
    go_enter Try.func22, Try.ntmps22
    go_wp2
    refine bodyPost_ret (v := .agg #[.int .i64 ew, .int .i64 (bits .xor .i64 ei 1), .int .u64 ep, .int .i64 et, .int .i64 eu, .int .i64 en, .slice a eb.length cap, .int .u64 eg]) ?_ rfl ⟨rfl, balloc (balloc (Below.refl _ _) _) _⟩
    rw [results_cell1 rfl]
    go_simp
  rw [if_neg h3]
  have f3 : (f == 3) = false := by simpa using h3
  by_cases h4 : f = 4
  · subst h4
    unfold ev xr
    dsimp only at *
    clear hv
    go_enter Try.func22, Try.ntmps22
    go_wp2
    refine bodyPost_ret (v := .agg #[.int .i64 (bits .xor .i64 ew 1), .int .i64 ei, .int .u64 ep, .int .i64 et, .int .i64 eu, .int .i64 en, .slice a eb.length cap, .int .u64 eg]) ?_ rfl ⟨rfl, balloc (balloc (Below.refl _ _) _) _⟩
    rw [results_cell1 rfl]
    go_simp
  rw [if_neg h4]
  have f4 : (f == 4) = false := by simpa using h4
  by_cases h5 : f = 5
  · subst h5
    unfold ev xr
    dsimp only at *
    clear hv
    go_enter Try.func22, Try.ntmps22
    go_wp2
    refine bodyPost_ret (v := .agg #[.int .i64 ew, .int .i64 ei, .int .u64 ep, .int .i64 et, .int .i64 eu, .int .i64 (bits .xor .i64 en 1), .slice a eb.length cap, .int .u64 eg]) ?_ rfl ⟨rfl, balloc (balloc (Below.refl _ _) _) _⟩
    rw [results_cell1 rfl]
    go_simp
  rw [if_neg h5]
  have f5 : (f == 5) = false := by simpa using h5
  unfold ev
  dsimp only at *
  clear hv hf h0 h2 h3 h4 h5
  go_enter Try.func22, Try.ntmps22
  go_wp2
  refine bodyPost_ret (v := .agg #[.int .i64 ew, .int .i64 ei, .int .u64 ep, .int .i64 et, .int .i64 eu, .int .i64 en, .slice a eb.length cap, .int .u64 eg]) ?_ rfl ⟨rfl, balloc (balloc (Below.refl _ _) _) _⟩
  rw [results_cell1 rfl]
  go_simp

theorem turned_any {w : World} {o : Nat → Nat} {e : Ent} {v : Value} (hv : Kp0 w o v e.b) (hl : e.b.length ≤ 90000) (f : Int) :
    Calls Try.prog 22 #[ev e v, .int .i64 f] w fun r w' => ∃ y, r = .returned (ev (turnE e f) y) ∧ Kp0 w' (newTo o w 0) y (turnE e f).b ∧ Below w.heap.size w w' := by
  by_cases h : f = 1
  · subst h
    refine (turned_body w e v hv.1 hl).mono ?_
    rintro r w' ⟨y, rfl, ho, hb⟩
    exact ⟨y, rfl, Kp0.of_new (w1 := w) ho (Nat.le_refl _), hb⟩
  · refine (turned_plain w e v hv.1 f h).mono ?_
    rintro r w' ⟨rfl, hb⟩
    have hb' : (turnE e f).b = e.b := by
      unfold turnE
      repeat' split
      all_goals first | rfl | contradiction
    rw [hb']
    exact ⟨v, rfl, hv.mv (Mv.of_below (I := []) 0 hb) (by simp), hb⟩
/-- An entry of a whole log, turned, is an entry. -/
theorem turn_ok {e : Ent} (h : EOk e) (hr : rightE e) (f : Int) : EOk (turnE e f) ∧ (turnE e f).b.length ≤ e.b.length + 1 := by
  obtain ⟨h1, h2, h3, h4, h5, h6, h7, h8⟩ := h
  obtain ⟨r1, r2, r3, r4, r5, r6, r7⟩ := hr
  have x1 := (xr_u64 h7).1
  have x2 := (xr_u64 h3).1
  have x3 := (xr_i64 (x := e.i) (by omega) (by omega)).1
  have x4 := (xr_i64 (x := e.w) (by omega) (by omega)).1
  have x5 := (xr_i64 (x := e.n) (by omega) (by omega)).1
  have h8' : Oct (7 :: e.b) := by
    intro y hy
    rcases List.mem_cons.1 hy with r | r
    · subst r; omega
    · exact h8 y r
  unfold turnE
  repeat' split
  · exact ⟨⟨h1, h2, h3, h4, h5, h6, x1, h8⟩, Nat.le_succ _⟩
  · exact ⟨⟨h1, h2, h3, h4, h5, h6, h7, h8'⟩, by simp⟩
  · exact ⟨⟨h1, h2, x2, h4, h5, h6, h7, h8⟩, Nat.le_succ _⟩
  · exact ⟨⟨h1, x3, h3, h4, h5, h6, h7, h8⟩, Nat.le_succ _⟩
  · exact ⟨⟨x4, h2, h3, h4, h5, h6, h7, h8⟩, Nat.le_succ _⟩
  · exact ⟨⟨h1, h2, h3, h4, h5, x5, h7, h8⟩, Nat.le_succ _⟩
  · exact ⟨⟨h1, h2, h3, h4, h5, h6, h7, h8⟩, Nat.le_succ _⟩
end

section
set_option linter.unusedVariables false
set_option linter.unusedSimpArgs false
set_option synthInstance.maxSize 20000
set_option maxHeartbeats 2000000
set_option maxRecDepth 20000
open Go.RowKit Go.Maps

theorem of_get_other {T : St} {x y : What} (h : x ≠ y) : (T.get x).2.of y = T.of y := by
  cases hx : T.of x with
  | some g => rw [get_some hx]
  | none =>
    rw [get_none hx]
    show (T.put x).of y = _
    rw [put_of, if_neg h]
    simp
theorem headM_sig {T S : St} {es : List Ent} {sum : Int} (h : headM T es = (sum, S)) (s : Int) (l : List Int) : S.of (.sig s l) = T.of (.sig s l) := by
  unfold headM at h
  split at h
  · cases h; rfl
  · have := congrArg Prod.snd h
    dsimp only at this
    rw [← this]
    exact of_get_other (fun e => by cases e)
theorem check_same {S T : St} {W p s : Int} (hs : S.at p = some (.pub s)) (ht : T.at p = some (.pub s)) (h : ∀ l, S.of (.sig s l) = T.of (.sig s l)) (L : Lg) (e : Ent) : checkM T W p L e = checkM S W p L e := by
  have : T.verify p (textL e) e.g = S.verify p (textL e) e.g := by rw [verify_pub ht, verify_pub hs, h]
  unfold checkM askK
  rw [this]

/-- The reference's oracle beside the program's: the last one's sum may not be asked yet. -/
structure Pend (T S : St) (s p : Int) (L : Lg) : Prop where
  hd : headM T L.es = (L.sum, S)
  key : Keyed' T s p
  fine : Fine T
  known : ∀ i e, L.es[i]? = some e → i + 1 < L.es.length → (T.of (.hash (bytesE e))).isSome = true
theorem pend_none {S : St} {s p : Int} (K : Keyed' S s p) (hF : Fine S) : Pend S S s p ⟨[], 0⟩ := ⟨rfl, K, hF, fun i e h => by simp at h⟩
/-- Where nothing is missing. -/
theorem pend_full {S : St} {s p : Int} {L : Lg} (K : Keyed' S s p) (hF : Fine S) (hw : Whole S 1 p s L) : Pend S S s p L := by
  refine ⟨?_, K, hF, fun i e hi _ => (hw.each i e hi).2.2⟩
  have hs := hw.sum
  unfold headM
  unfold sumOf at hs
  cases hl : L.es.getLast? with
  | none =>
    rw [hl] at hs
    dsimp only at hs ⊢
    rw [hs]
  | some f =>
    rw [hl] at hs
    dsimp only at hs ⊢
    obtain ⟨g, hg⟩ := Option.isSome_iff_exists.1 (hw.has (List.mem_of_getLast? hl))
    rw [hg] at hs
    rw [get_some hg, hs]
    rfl
theorem Pend.len {T S : St} {s p : Int} {L : Lg} (h : Pend T S s p L) : S.rows.length ≤ T.rows.length + 1 ∧ T.rows.length ≤ S.rows.length := by
  have := headM_len T L.es
  rw [h.hd] at this
  refine ⟨this, ?_⟩
  have hd := h.hd
  unfold headM at hd
  split at hd
  · have e := congrArg Prod.snd hd
    dsimp only at e
    rw [e]
    exact Nat.le_refl _
  · rename_i f _
    have e := congrArg Prod.snd hd
    dsimp only at e
    rw [← e]
    cases hx : T.of (.hash (bytesE f)) with
    | some g => rw [get_some hx]; exact Nat.le_refl _
    | none => rw [get_none hx]; show _ ≤ (T.put _).rows.length; rw [put_len]; omega
theorem Pend.fineS {T S : St} {s p : Int} {L : Lg} (h : Pend T S s p L) (hN : T.rows.length < 1000000000) : Fine S := by
  have hd := h.hd
  unfold headM at hd
  split at hd
  · have e := congrArg Prod.snd hd
    dsimp only at e
    rw [← e]
    exact h.fine
  · have e := congrArg Prod.snd hd
    dsimp only at e
    rw [← e]
    exact h.fine.get h.key.good hN (fun _ _ _ e => by cases e)
theorem Pend.last {T S : St} {s p : Int} {L : Lg} (hw : Whole S 1 p s L) : ∀ f, L.es.getLast? = some f → rightB f = true := fun f hf => by
  obtain ⟨i, hi⟩ := hw.mem (List.mem_of_getLast? hf)
  exact (rightB_iff f).2 ((check_zero _ _ _ _ _).1 (hw.each i f hi).1).1

/-- What is issued: the reference's oracle is then where the program's was ahead of the sum. -/
theorem Pend.issue {T S S' : St} {s p : Int} {L L' : Lg} {t n : Int} {l : List Int} {e : Ent} (h : Pend T S s p L) (K : Keyed' S s p) (hw : Whole S 1 p s L) (hN : T.rows.length + 3 < 1000000000) (hk : issueK L (candE 1 L t 1 n l) = 0) (hoc : EOk (candE 1 L t 1 n l)) (hM : issueM S 1 s L t 1 n l = ((e, 0), S', L')) :
    (signM S s (candE 1 L t 1 n l)).1 = e ∧ L'.es = L.es ++ [e] ∧ Pend (signM S s (candE 1 L t 1 n l)).2 S' s p L' := by
  unfold issueM at hM
  rw [if_pos hk] at hM
  have hl := h.len
  have e1 : (signM S s (candE 1 L t 1 n l)).1 = e := congrArg (fun q => q.1.1) hM
  have e2 : (addM (signM S s (candE 1 L t 1 n l)).2 L (signM S s (candE 1 L t 1 n l)).1) = (S', L') := congrArg (fun q => q.2) hM
  rw [e1] at e2
  have e3 : ((signM S s (candE 1 L t 1 n l)).2.get (.hash (bytesE e))).2 = S' := congrArg Prod.fst e2
  have e4 : (⟨L.es ++ [e], ((signM S s (candE 1 L t 1 n l)).2.get (.hash (bytesE e))).1⟩ : Lg) = L' := congrArg Prod.snd e2
  have hx : WhatOk (.sig s (textL (candE 1 L t 1 n l))) := ⟨K.us, (bytes_oct' hoc).1⟩
  have K1 : Keyed' (signM S s (candE 1 L t 1 n l)).2 s p := K.get (by omega) hx
  have sub1 : Sub S (signM S s (candE 1 L t 1 n l)).2 := sub_get K.good (by omega) _
  have F1 : Fine (signM S s (candE 1 L t 1 n l)).2 := (h.fineS (by omega)).get K.good (by omega) (fun _ _ _ e => by cases e)
  have hes : L'.es = L.es ++ [e] := by rw [← e4]
  refine ⟨e1, hes, ?_, K1, F1, fun i f hi hlt => ?_⟩
  · rw [hes]
    unfold headM
    rw [List.getLast?_append]
    show (signM S s (candE 1 L t 1 n l)).2.get (.hash (bytesE e)) = _
    rw [← e4]
    exact Prod.ext rfl e3
  · rw [hes] at hi hlt
    simp at hlt
    rw [List.getElem?_append_left hlt] at hi
    obtain ⟨g, hg⟩ := Option.isSome_iff_exists.1 (hw.each i f hi).2.2
    rw [sub1.of _ _ hg]
    rfl

/-- What is turned is not accepted. -/
theorem turn_diff {e e' : Ent} {f : Int} (he : e' = turnE e f) (hok : EOk e) (hr : rightE e) : e' = e ∨ (e' ≠ e ∧ (e'.g = e.g ∨ textL e' = textL e)) := by
  by_cases h : e' = e
  · exact .inl h
  · refine .inr ⟨h, ?_⟩
    subst he
    unfold turnE
    repeat' split
    all_goals first | exact .inl rfl | exact .inr rfl
theorem turn_refused {S : St} {W p s : Int} {es : List Ent} {sum : Int} {e e' : Ent} (K : Keyed' S s p) (hok : EOk e) (hok' : EOk e') (hr : rightE e) (hv : S.verify p (textL e) e.g = true) (hne : e' ≠ e) (h : e'.g = e.g ∨ textL e' = textL e) : checkM S W p ⟨es, sum⟩ e' ≠ 0 := by
  intro hc
  have z := (check_zero _ _ _ _ _).1 hc
  have v1 := of_decide_eq_true ((verify_sig K _ _).symm.trans hv)
  have v2 := of_decide_eq_true ((verify_sig K _ _).symm.trans z.2.2.1)
  have hg : e'.g = e.g := by
    rcases h with r | r
    · exact r
    · rw [r, v1] at v2
      exact (Option.some.inj v2).symm
  have ht : textL e' = textL e := by
    rw [hg] at v2
    have := of_inj K.good v2 v1
    simpa using this
  have hq := text_inj z.1 hok' hr hok ht
  apply hne
  obtain ⟨a1, a2, a3, a4, a5, a6, a7, a8⟩ := e'
  obtain ⟨b1, b2, b3, b4, b5, b6, b7, b8⟩ := e
  simp at hq hg ⊢
  exact ⟨hq.1, hq.2.1, hq.2.2.1, hq.2.2.2.1, hq.2.2.2.2.1, hq.2.2.2.2.2.1, hq.2.2.2.2.2.2, hg⟩

/-- A list that is a whole log up to a place, and has there what is refused. -/
theorem whole_stop {S : St} {W p s : Int} {L : Lg} (h : Whole S W p s L) {k : Nat} {e' : Ent} {rest : List Ent} {K : Int} (hk : k ≤ L.es.length) (hK : checkM S W p ⟨L.es.take k, sumOf S (L.es.take k)⟩ e' = K) (hK0 : K ≠ 0) : ∀ n i, i + n = k → wholeL W p S ⟨L.es.take i, sumOf S (L.es.take i)⟩ ((L.es.take k).drop i ++ e' :: rest) i = (((k : Int), K), S)
  | 0, i, hi => by
    have : i = k := by omega
    subst this
    rw [List.drop_of_length_le (by rw [List.length_take]; omega), List.nil_append, wholeL_cons, accept_bad (by rw [hK]; exact hK0), hK, if_neg hK0]
  | n + 1, i, hi => by
    obtain ⟨e, he⟩ : ∃ e, L.es[i]? = some e := ⟨_, List.getElem?_eq_getElem (by omega)⟩
    have hd : (L.es.take k).drop i = e :: (L.es.take k).drop (i + 1) := by
      rw [List.drop_eq_getElem_cons (by rw [List.length_take]; omega)]
      congr 1
      have := List.getElem?_eq_getElem (l := L.es) (i := i) (by omega)
      rw [he] at this
      rw [List.getElem_take]
      exact (Option.some.inj this).symm
    rw [hd, List.cons_append, wholeL_cons, h.next he, if_pos rfl]
    exact whole_stop h hk hK hK0 n (i + 1) (by omega)
end

section
set_option linter.unusedVariables false
set_option linter.unusedSimpArgs false
set_option synthInstance.maxSize 20000
set_option maxHeartbeats 2000000
set_option maxRecDepth 20000
open Go.RowKit Go.Maps

/-- The program's oracle and log, the reference's oracle and log. -/
structure BG (w0 w : World) (o : Nat → Nat) (b la r lx : Nat) (s p : Int) (S T : St) (L : Lg) : Prop where
  g : G1 w0 w o b la s p S L
  orc : ROrc w0 w o r T
  log : RLogIs w o 5 lx 1 p L.es
  pend : Pend T S s p L
theorem BG.mv {I : List Nat} {w0 w w' : World} {o o' : Nat → Nat} {b la r lx : Nat} {s p : Int} {S T : St} {L : Lg} (h : BG w0 w o b la r lx s p S T L) (m : Mv I w o w' o') (hI : ∀ i ∈ I, i = 4 ∨ i = 6 ∨ i = 7 ∨ i = 9) : BG w0 w' o' b la r lx s p S T L := by
  have h0 : 0 ∉ I := fun e => by have := hI 0 e; omega
  have h1 : 1 ∉ I := fun e => by have := hI 1 e; omega
  have h3 : 3 ∉ I := fun e => by have := hI 3 e; omega
  have h5 : 5 ∉ I := fun e => by have := hI 5 e; omega
  have h8 : 8 ∉ I := fun e => by have := hI 8 e; omega
  refine ⟨h.g.mvd m h0 h1 h3 (fun i hi => ?_), h.orc.mv m h0 h8, h.log.mv m h0 h5, h.pend⟩
  rcases hI i hi with r | r | r | r <;> subst r <;> simp
theorem BG.below {w0 w w' : World} {o : Nat → Nat} {b la r lx : Nat} {s p : Int} {S T : St} {L : Lg} (h : BG w0 w o b la r lx s p S T L) (hb : Below w.heap.size w w') : BG w0 w' (newTo o w 0) b la r lx s p S T L := h.mv (Mv.of_below (I := []) 0 hb) (by simp)

theorem both_new {w0 w1 w2 w3 w4 : World} {o2 o3 : Nat → Nat} {b : Nat} {s p : Int} {S1 : St} {dv : Value} {ds : List Int} (hb1 : Below w0.heap.size w0 w1) (h2 : OrcAt w2 o2 b S1) (m2 : Mv [1] (w1.alloc (.cells #[dv, .slice none 0 0] 31)) (newTo (newTo (fun _ => 0) w0 1) w1 8) w2 o2)
    (h3 : ROrc w0 w3 o3 w1.heap.size S1) (m3 : Mv [8] w2 o2 w3 o3) (hl : ∀ o, LogIs w4 (newTo o w3 3) 3 w3.heap.size b 1 p ⟨[], 0⟩) (hb4 : Below w3.heap.size w3 w4) (K : Keyed' S1 s p) (F : Fine S1) :
    ∃ o, BG w0 (w4.alloc (.cells #[.int .i64 1, .int .u64 p, .slice none 0 0] 42)) o b w3.heap.size w1.heap.size w4.heap.size s p S1 S1 ⟨[], 0⟩ := by
  have m4 : Mv [] w3 o3 w4 (newTo o3 w3 3) := Mv.of_below 3 hb4
  have m5 : Mv [] w4 (newTo o3 w3 3) (w4.alloc (.cells #[.int .i64 1, .int .u64 p, .slice none 0 0] 42)) (newTo (newTo o3 w3 3) w4 5) := Mv.of_below 5 (balloc (Below.refl _ _) _)
  refine ⟨newTo (newTo o3 w3 3) w4 5, ⟨((h2.mv m3 (by simp)).mv m4 (by simp)).mv m5 (by simp), (hl o3).mv m5 (by simp) (by simp), K, whole_nil K.pub, ?_⟩, (h3.mv m4 (by simp) (by simp)).mv m5 (by simp) (by simp), rlog_new 5 1 p (i64_small (by omega) (by omega)) K.up, pend_none K F⟩
  exact (((((Mv.of_below 1 hb1).trans (Mv.of_below 8 (balloc (Below.refl _ _) _))).trans (m2.widen (by simp))).trans (m3.widen (by simp))).trans (m4.widen (by simp))).trans (m5.widen (by simp))

theorem G1.issue' {w0 w : World} {o : Nat → Nat} {b la : Nat} {s p : Int} {S : St} {L : Lg} (h : G1 w0 w o b la s p S L) (hN : S.rows.length + 2 < 1000000000) {t u n : Int} (ht : I64 t) (hu : I64 u) (hn : I64 n) {l : List Int} {x : Value} (hx : Kp0 w o x l) (hlen : l.length ≤ 90000) :
    Calls Try.prog 19 #[ptr la, .int .u64 s, .agg #[.int .i64 t, .int .i64 u], .int .i64 n, x] w fun r w' => ∃ e k S' L' y o', r = .returned (.tuple #[ev e y, .int .i64 k]) ∧ issueM S 1 s L t u n l = ((e, k), S', L') ∧ Issued S p s L t u n l e k S' L' ∧ G1 w0 w' o' b la s p S' L' ∧ Kp0 w' o' y e.b ∧ Mv [1, 3] w o w' o' := by
  have hI := issue_any h.orc h.log (by omega) (by omega) s t u n ht hu hn l x hx hlen h.key.us h.key.sec hN
  obtain ⟨e, k, S', L', h1, h2, h3, h4, h5⟩ := issue_ans h.key h.whole hN ht hu hn hx.1.oct
  rw [h1] at hI
  refine hI.mono ?_
  rintro r w' ⟨y, rfl, o', q1, q2, q3, q4⟩
  exact ⟨e, k, S', L', y, o', rfl, h1, h2, ⟨q1, q2, h3, h5, h.mv.trans (q4.widen (by simp))⟩, q3, q4⟩

/-- The reference's Issue behind the program's. -/
theorem rissue_pend {w0 w : World} {o : Nat → Nat} {r lx : Nat} {s p : Int} {S T S' : St} {L L' : Lg} {e : Ent} {k t n : Int} {l : List Int} {x : Value} (K : Keyed' S s p) (hw : Whole S 1 p s L) (hP : Pend T S s p L) (hO : ROrc w0 w o r T) (hX : RLogIs w o 5 lx 1 p L.es) (hN : T.rows.length + 3 ≤ 100000) (hfew : L.es.length < 200) (ht : I64 t) (hn : I64 n) (hx : Kp0 w o x l) (hM : issueM S 1 s L t 1 n l = ((e, k), S', L')) :
    Calls Try.prog 20 #[ptr lx, ptr r, .int .u64 s, .agg #[.int .i64 t, .int .i64 1], .int .i64 n, x] w fun q w' => ∃ y T' o', q = .returned (.tuple #[ev e y, .int .i64 k]) ∧ Kp0 w' o' y e.b ∧ ROrc w0 w' o' r T' ∧ RLogIs w' o' 5 lx 1 p L'.es ∧ Pend T' S' s p L' ∧ Mv [8, 5] w o w' o' := by
  have hI : RIss w0 w o 5 lx r T S 1 p L.es L.sum s t 1 n l x := ⟨hX, hO, hP.hd, Pend.last (T := T) hw, by omega, by omega, by omega, hfew, hx, ht, i64_small (by omega) (by omega), hn, hw.sumU K.good, K.sec⟩
  by_cases hk : issueK L (candE 1 L t 1 n l) = 0
  · have hk0 : k = 0 := by
      unfold issueM at hM
      rw [if_pos hk] at hM
      exact (congrArg (fun q => q.1.2) hM).symm
    subst hk0
    have hoc : EOk (candE 1 L t 1 n l) := candE_ok (i64_small (by omega) (by omega)) (by omega) (hw.sumU K.good) ht (i64_small (by omega) (by omega)) hn hx.1.oct
    obtain ⟨a1, a2, a3⟩ := hP.issue K hw (by omega) hk hoc hM
    refine (rissue_yes hI hk).mono ?_
    rintro q w' ⟨e', he', rfl, o', h1, h2, h3⟩
    have : e' = e := he'.trans a1
    subst this
    refine ⟨x, _, o', rfl, ?_, h1, by rw [a2]; exact h2, a3, h3⟩
    have heb : e'.b = l := by rw [he']; rfl
    rw [heb]
    exact hx.mv h3 (by simp)
  · have hM' := issue_no (S := S) (s := s) hk
    rw [hM] at hM'
    simp only [Prod.mk.injEq] at hM'
    obtain ⟨⟨rfl, rfl⟩, rfl, rfl⟩ := hM'
    refine (rissue_no hI hk).mono ?_
    rintro q w' ⟨rfl, o', h1, h2⟩
    exact ⟨.slice none 0 0, S', o', rfl, kp0_nil _ _, h1, hX.mv h2 (by simp) (by simp), pend_full K (hP.fineS (by omega)) hw, h2.widen (by simp)⟩

theorem headM_known {T S : St} {s p : Int} {L : Lg} (hP : Pend T S s p L) (hw : Whole S 1 p s L) {i : Nat} (hi : i < L.es.length) : headM T (L.es.take i) = (sumOf S (L.es.take i), T) := by
  unfold headM sumOf
  cases hl : (L.es.take i).getLast? with
  | none => rfl
  | some f =>
    dsimp only
    have hf : ∃ j, j + 1 = i ∧ L.es[j]? = some f := by
      rw [List.getLast?_eq_getElem?] at hl
      have hlt := (List.getElem?_eq_some_iff.1 hl).1
      rw [List.length_take] at hl hlt
      rw [List.getElem?_take] at hl
      split at hl
      · exact ⟨_, by omega, hl⟩
      · cases hl
    obtain ⟨j, hj, hj2⟩ := hf
    obtain ⟨g, hg⟩ := Option.isSome_iff_exists.1 (hP.known j f hj2 (by omega))
    have hof : S.of (.hash (bytesE f)) = some g := by
      have hd := hP.hd
      unfold headM at hd
      split at hd
      · have e := congrArg Prod.snd hd
        dsimp only at e
        rw [← e]
        exact hg
      · have e := congrArg Prod.snd hd
        dsimp only at e
        rw [← e]
        exact get_keeps hg
    rw [get_some hg, hof]
    rfl

theorem set_split {l : List Ent} {k : Nat} {e' : Ent} (hk : k < l.length) : l.set k e' = l.take k ++ e' :: l.drop (k + 1) := by
  rw [List.set_eq_take_append_cons_drop, if_pos hk]

/-- What both Wholes answer: the same. -/
theorem both_whole {w0 w : World} {o : Nat → Nat} {b la r lx : Nat} {s p : Int} {S T : St} {L : Lg} (h : BG w0 w o b la r lx s p S T L) (hN : S.rows.length ≤ 10000) (hfew : L.es.length ≤ 100) {v : Value} {ps : List (Ent × Value)} (has : ps.map (·.1) = L.es ∨ ∃ k e f, L.es[k]? = some e ∧ ps.map (·.1) = L.es.set k (turnE e f)) (hv : RowE w v ps) (hE : Ents w o ps) (hrow : ∀ k, v.ownBlock = some k → o k = 7 ∧ k < w.heap.size) :
    ∃ N K, (Calls Try.prog 27 #[ptr b, .int .u64 p, v] w fun q w' => q = .returned (.tuple #[.int .i64 N, .int .i64 K]) ∧ ∃ o', ROrc w0 w' o' r T ∧ RowE w' v ps ∧ Ents w' o' ps ∧ (∀ k, v.ownBlock = some k → o' k ≠ 8) ∧ Mv [1, 3, 4, 5, 6, 7, 8, 9] w0 (fun _ => 0) w' o') ∧
      (∀ (w' : World) (o' : Nat → Nat), ROrc w0 w' o' r T → RowE w' v ps → Ents w' o' ps → (∀ k, v.ownBlock = some k → o' k ≠ 8) → Calls Try.prog 28 #[ptr r, .int .u64 p, v] w' fun q w'' => q = .returned (.tuple #[.int .i64 N, .int .i64 K]) ∧ ∃ o'', ROrc w0 w'' o'' r T ∧ Mv [8] w' o' w'' o'') := by
  have hG := h.g
  have hw := hG.whole
  have hP := h.pend
  have hl : ps.length = L.es.length := by
    rcases has with e | ⟨k, e, f, _, e'⟩
    · have := congrArg List.length e; simpa using this
    · have := congrArg List.length e'; simpa using this
  have htl := hP.len
  have fin : ∀ (w' : World) (o' : Nat → Nat), Mv [1] w o w' o' → ∃ o', ROrc w0 w' o' r T ∧ RowE w' v ps ∧ Ents w' o' ps ∧ (∀ k, v.ownBlock = some k → o' k ≠ 8) ∧ Mv [1, 3, 4, 5, 6, 7, 8, 9] w0 (fun _ => 0) w' o' := fun w' o' m =>
    ⟨o', h.orc.mv m (by simp) (by simp), hv.mv m (fun k hk => by rw [(hrow k hk).1]; simp), hE.mv m (by simp), (fun k hk => by rw [m.ext k (hrow k hk).2, (hrow k hk).1]; omega), hG.mv.trans (m.widen (by simp))⟩
  have same : ∀ (W : Int) (L' : Lg) (e : Ent), checkM T W p L' e = checkM S W p L' e := fun W L' e => check_same hG.key.pub hP.key.pub (fun l => headM_sig hP.hd s l) L' e
  have short : ∀ e ∈ L.es, e.b.length ≤ 1100 ∧ rightE e ∧ EOk e ∧ e.w = 1 ∧ S.verify p (textL e) e.g = true := fun e he => by
    obtain ⟨i, hi⟩ := hw.mem he
    have q := hw.each i e hi
    have z := (check_zero _ _ _ _ _).1 q.1
    exact ⟨z.1.2.2.2.2.2.2, z.1, q.2.1, z.2.1, z.2.2.1⟩
  by_cases hne : ps = []
  · subst hne
    obtain ⟨a, cap, rfl⟩ := hv.len
    refine ⟨0, 0, ?_, fun w' o' h1 _ _ _ => ?_⟩
    · refine (whole_none w _ _ a cap).mono ?_
      rintro q w' ⟨rfl, rfl⟩
      exact ⟨rfl, fin _ _ (Mv.refl _ _ _)⟩
    · refine (rwhole_nil w' _ _ a cap).mono ?_
      rintro q w'' ⟨rfl, rfl⟩
      exact ⟨rfl, o', h1, Mv.refl _ _ _⟩
  obtain ⟨q0, h0⟩ : ∃ q0, ps[0]? = some q0 := by
    cases ps with
    | nil => exact absurd rfl hne
    | cons q0 ps => exact ⟨q0, rfl⟩
  have hpos : 0 < L.es.length := by rw [← hl]; exact (List.getElem?_eq_some_iff.1 h0).1
  -- all are as they were, or one is another
  have has' : ps.map (·.1) = L.es ∨ ∃ k e e', L.es[k]? = some e ∧ ps.map (·.1) = L.es.set k e' ∧ e' ≠ e ∧ (e'.g = e.g ∨ textL e' = textL e) ∧ EOk e' ∧ e'.b.length ≤ 1101 ∧ 0 ≤ e'.w ∧ e'.w < 8 := by
    rcases has with e | ⟨k, e, f, he, hs⟩
    · exact .inl e
    · have sh := short e (List.mem_of_getElem? he)
      rcases turn_diff (e := e) (f := f) rfl sh.2.2.1 sh.2.1 with r | ⟨r1, r2⟩
      · left
        rw [hs, r]
        apply List.ext_getElem?
        intro j
        rw [List.getElem?_set]
        split
        · rename_i hj
          subst hj
          split
          · exact he.symm
          · rename_i hlt
            rw [List.getElem?_eq_none (by omega)]
        · rfl
      · right
        have ok := turn_ok sh.2.2.1 sh.2.1 f
        refine ⟨k, e, turnE e f, he, hs, r1, r2, ok.1, by have := sh.1; omega, ?_⟩
        have hx : xr .i64 1 = 0 := by decide
        unfold turnE
        repeat' split
        all_goals try dsimp only
        all_goals first | (rw [sh.2.2.2.1, hx]; omega) | (rw [sh.2.2.2.1]; omega)
  rcases has' with hm | ⟨k, e, e', he, hs, hne', hdf, hok', hb', hw1, hw2⟩
  · -- as they were
    have he0 : L.es[0]? = some q0.1 := by rw [← hm, List.getElem?_map, h0]; rfl
    have hW : q0.1.w = 1 := (short _ (List.mem_of_getElem? he0)).2.2.2.1
    refine ⟨(L.es.length : Int), 0, ?_, fun w' o' h1 h2 h3 h4 => ?_⟩
    · have hA := whole_any hG.orc hG.key.up h0 (by rw [hW]; omega) (by rw [hW]; omega) hv hE (fun k hk => by rw [(hrow k hk).1]; omega) (by omega) (fun q hq => by
        have := (short q.1 (by rw [← hm]; exact List.mem_map.2 ⟨q, hq, rfl⟩)).1
        omega) (by omega)
      rw [hm, hW, whole_all hw] at hA
      refine hA.mono ?_
      rintro q w' ⟨rfl, o', q1, q2⟩
      exact ⟨rfl, fin _ _ q2⟩
    · have hA := rwhole_any h1 hP.fine hG.key.up h0 h2 h3 h4 (by omega) (by omega) ps.length (Nat.le_refl _) (fun i => sumOf S (L.es.take i)) (fun i _ hi => by rw [hm]; exact headM_known hP hw (by omega)) (fun i hi e he => by rw [hm] at he ⊢; rw [hW, same]; exact (hw.each i e he).1) 0 (fun c => absurd c (Nat.lt_irrefl _)) (fun _ => rfl)
      rw [hl] at hA
      exact hA
  · -- one is another
    have hk : k < L.es.length := (List.getElem?_eq_some_iff.1 he).1
    have sh := short e (List.mem_of_getElem? he)
    have hget : ∀ i, i < k → (ps.map (·.1))[i]? = L.es[i]? := fun i hi => by rw [hs, List.getElem?_set, if_neg (by omega)]
    have hgetk : (ps.map (·.1))[k]? = some e' := by rw [hs, List.getElem?_set, if_pos rfl, if_pos hk]
    have htake : ∀ i, i ≤ k → (ps.map (·.1)).take i = L.es.take i := fun i hi => by rw [hs, List.take_set_of_le (by omega)]
    have hq0 : q0.1 = if k = 0 then e' else q0.1 := by
      by_cases c : k = 0
      · subst c
        rw [List.getElem?_map, h0] at hgetk
        rw [if_pos rfl]
        simpa using hgetk
      · rw [if_neg c]
    have hW1 : k ≠ 0 → q0.1.w = 1 := fun c => by
      have := hget 0 (by omega)
      rw [List.getElem?_map, h0] at this
      exact (short _ (List.mem_of_getElem? this.symm)).2.2.2.1
    have hWr : 0 ≤ q0.1.w ∧ q0.1.w < 8 := by
      by_cases c : k = 0
      · rw [hq0, if_pos c]; exact ⟨hw1, hw2⟩
      · rw [hW1 c]; omega
    have hK0 := turn_refused (W := q0.1.w) (es := L.es.take k) (sum := sumOf S (L.es.take k)) hG.key sh.2.2.1 hok' sh.2.1 sh.2.2.2.2 hne' hdf
    refine ⟨(k : Int), checkM S q0.1.w p ⟨L.es.take k, sumOf S (L.es.take k)⟩ e', ?_, fun w' o' h1 h2 h3 h4 => ?_⟩
    · have hA := whole_any hG.orc hG.key.up h0 hWr.1 hWr.2 hv hE (fun k hk => by rw [(hrow k hk).1]; omega) (by omega) (fun q hq => by
        have hmem : q.1 ∈ ps.map (·.1) := List.mem_map.2 ⟨q, hq, rfl⟩
        rw [hs] at hmem
        rcases List.mem_or_eq_of_mem_set hmem with c | c
        · have := (short q.1 c).1; omega
        · rw [c]; omega) (by omega)
      have hwl : wholeL q0.1.w p S ⟨[], 0⟩ (ps.map (·.1)) 0 = (((k : Int), checkM S q0.1.w p ⟨L.es.take k, sumOf S (L.es.take k)⟩ e'), S) := by
        rw [hs, set_split hk]
        by_cases c : k = 0
        · subst c
          simp only [List.take_zero, List.nil_append]
          rw [wholeL_cons]
          have hs0 : sumOf S [] = 0 := rfl
          rw [List.take_zero] at hK0
          rw [hs0] at hK0 ⊢
          rw [accept_bad hK0, if_neg hK0]
          try rfl
        · have hw' : Whole S q0.1.w p s L := by rw [hW1 c]; exact hw
          have := whole_stop hw' (e' := e') (rest := L.es.drop (k + 1)) (by omega) rfl hK0 k 0 (by omega)
          simpa [sumOf] using this
      rw [hwl] at hA
      refine hA.mono ?_
      rintro q w' ⟨rfl, o', q1, q2⟩
      exact ⟨rfl, fin _ _ q2⟩
    · refine rwhole_any h1 hP.fine hG.key.up h0 h2 h3 h4 (by omega) (by omega) k (by omega) (fun i => sumOf S (L.es.take i)) (fun i hi hlt => by rw [htake i hi]; exact headM_known hP hw (by omega)) (fun i hi f hf => ?_) _ (fun _ => ⟨hK0, fun f hf => ?_⟩) (fun c => by omega)
      · rw [htake i (by omega), same, hW1 (by omega)]
        rw [hget i hi] at hf
        exact (hw.each i f hf).1
      · rw [hgetk] at hf
        cases hf
        rw [htake k (Nat.le_refl _), same]
end
end Go.Proofs.Yteedjdflojfhmaa
