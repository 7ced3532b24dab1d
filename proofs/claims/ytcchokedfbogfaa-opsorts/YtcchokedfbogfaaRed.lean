/-
  The operation of bytes.
-/
import Derived.Test.YtcchokedfbogfaaRea
namespace Go.Proofs.Ytcchokedfbogfaa
set_option linter.unusedVariables false
set_option linter.unusedSimpArgs false
set_option synthInstance.maxSize 20000
set_option maxHeartbeats 2000000
set_option maxRecDepth 20000
open Go.RowKit Go.Maps

/-- An operation with its content where it lies. -/
def qv (q : OpT) (va : Option Addr) (vc : Nat) : OpT := { q with va := va, vn := q.b.length, vc := vc }
abbrev Rst := List Int × Int × OpT
/-- What part f takes. -/
def tkM (f : Nat) (s : Rst) : Rst :=
  if f = 59 then ((gotS s.1 s.2.1).2.1, (gotS s.1 s.2.1).2.2, { s.2.2 with n := (gotS s.1 s.2.1).1 })
  else if f = 61 then ((gotS s.1 s.2.1).2.1, (gotS s.1 s.2.1).2.2, { s.2.2 with p := (gotS s.1 s.2.1).1 })
  else if f = 63 then ((rBytes s.1 s.2.1 24).2.1, (rBytes s.1 s.2.1 24).2.2, { s.2.2 with s := strOfNums (rBytes s.1 s.2.1 24).1 })
  else if f = 65 then ((rBool s.1 s.2.1).2.1, (rBool s.1 s.2.1).2.2, { s.2.2 with d := (rBool s.1 s.2.1).1 })
  else ((rBytes s.1 s.2.1 400).2.1, (rBytes s.1 s.2.1 400).2.2, { s.2.2 with b := (rBytes s.1 s.2.1 400).1 })
theorem rBytes_len (l : List Int) (k m : Int) (ho : Oct l) : (rBytes l k m).2.1.length ≤ l.length := by
  have := rNum_len l k ho
  unfold rBytes
  split
  · simp
  · split
    · simp
    · simp; omega
theorem rBool_len (l : List Int) (k : Int) (ho : Oct l) : (rBool l k).2.1.length ≤ l.length := by
  have := rNum_len l k ho
  unfold rBool
  split
  · simp
  · exact this
theorem rCount_len (l : List Int) (k m : Int) (ho : Oct l) : (rCount l k m).2.1.length ≤ l.length := by
  have := rNum_len l k ho
  unfold rCount
  split
  · simp
  · exact this
theorem rNum_oct (l : List Int) (k : Int) (ho : Oct l) : Oct (rNum l k).2.1 := by
  unfold rNum
  cases hp : parse 0 l with
  | none => exact Oct.nil
  | some q =>
    have := (numAt_some ho hp).2.1
    rw [this] at ho
    exact ho.of_append.2
theorem gotS_len (l : List Int) (k : Int) (ho : Oct l) : (gotS l k).2.1.length ≤ l.length := by
  have h1 := rNum_len l k ho
  have h2 := rCount_len (rNum l k).2.1 (rNum l k).2.2 7 (rNum_oct l k ho)
  unfold gotS
  dsimp only
  omega
def RStX (w : World) (rb ob : Nat) (s : Rst) : Prop := ∃ va vc, RSt w rb ob s.1 s.2.1 (qv s.2.2 va vc)
theorem RStX.oct {w : World} {rb ob : Nat} {s : Rst} (h : RStX w rb ob s) : Oct s.1 := by
  obtain ⟨va, vc, h⟩ := h
  exact h.rd.oct
theorem RStX.below {w w' : World} {rb ob : Nat} {s : Rst} (h : RStX w rb ob s) (hb : Below w.heap.size w w') : RStX w' rb ob s := by
  obtain ⟨va, vc, h⟩ := h
  exact ⟨va, vc, h.below hb⟩
theorem rBytes_oct (l : List Int) (k m : Int) (ho : Oct l) : Oct (rBytes l k m).2.1 := by
  have := rNum_oct l k ho
  unfold rBytes
  split
  · exact Oct.nil
  · split
    · exact Oct.nil
    · exact this.drop _
theorem rBool_oct (l : List Int) (k : Int) (ho : Oct l) : Oct (rBool l k).2.1 := by
  have := rNum_oct l k ho
  unfold rBool
  split
  · exact Oct.nil
  · exact this
theorem rCount_oct (l : List Int) (k m : Int) (ho : Oct l) : Oct (rCount l k m).2.1 := by
  have := rNum_oct l k ho
  unfold rCount
  split
  · exact Oct.nil
  · exact this
theorem gotS_oct (l : List Int) (k : Int) (ho : Oct l) : Oct (gotS l k).2.1 := rCount_oct _ _ _ (rNum_oct l k ho)
theorem tkM_oct (f : Nat) (s : Rst) (ho : Oct s.1) : Oct (tkM f s).1 := by
  unfold tkM
  split
  · exact gotS_oct _ _ ho
  · split
    · exact gotS_oct _ _ ho
    · split
      · exact rBytes_oct _ _ _ ho
      · split
        · exact rBool_oct _ _ ho
        · exact rBytes_oct _ _ _ ho
theorem tkM_len (f : Nat) (s : Rst) (ho : Oct s.1) : (tkM f s).1.length ≤ s.1.length := by
  unfold tkM
  split
  · exact gotS_len _ _ ho
  · split
    · exact gotS_len _ _ ho
    · split
      · exact rBytes_len _ _ _ ho
      · split
        · exact rBool_len _ _ ho
        · exact rBytes_len _ _ _ ho
theorem takeX59 {w : World} {rb ob : Nat} {s : Rst} (h : RStX w rb ob s) (hl : s.1.length ≤ 1000000000) : Calls Try.prog 59 #[hv ob, ptr rb] w fun e w' => e = .returned (.tuple #[]) ∧ Turn [rb, ob] w w' ∧ RStX w' rb ob (tkM 59 s) := by
  obtain ⟨va, vc, h⟩ := h
  refine (take59 h hl).mono ?_
  rintro e w' ⟨rfl, ht, h2⟩
  exact ⟨rfl, ht, va, vc, h2⟩
theorem takeX61 {w : World} {rb ob : Nat} {s : Rst} (h : RStX w rb ob s) (hl : s.1.length ≤ 1000000000) : Calls Try.prog 61 #[hv ob, ptr rb] w fun e w' => e = .returned (.tuple #[]) ∧ Turn [rb, ob] w w' ∧ RStX w' rb ob (tkM 61 s) := by
  obtain ⟨va, vc, h⟩ := h
  refine (take61 h hl).mono ?_
  rintro e w' ⟨rfl, ht, h2⟩
  exact ⟨rfl, ht, va, vc, h2⟩
theorem takeX63 {w : World} {rb ob : Nat} {s : Rst} (h : RStX w rb ob s) (hl : s.1.length ≤ 1000000000) : Calls Try.prog 63 #[hv ob, ptr rb] w fun e w' => e = .returned (.tuple #[]) ∧ Turn [rb, ob] w w' ∧ RStX w' rb ob (tkM 63 s) := by
  obtain ⟨va, vc, h⟩ := h
  refine (take63 h hl).mono ?_
  rintro e w' ⟨rfl, ht, h2⟩
  exact ⟨rfl, ht, va, vc, h2⟩
theorem takeX65 {w : World} {rb ob : Nat} {s : Rst} (h : RStX w rb ob s) (hl : s.1.length ≤ 1000000000) : Calls Try.prog 65 #[hv ob, ptr rb] w fun e w' => e = .returned (.tuple #[]) ∧ Turn [rb, ob] w w' ∧ RStX w' rb ob (tkM 65 s) := by
  obtain ⟨va, vc, h⟩ := h
  refine (take65 h hl).mono ?_
  rintro e w' ⟨rfl, ht, h2⟩
  exact ⟨rfl, ht, va, vc, h2⟩
theorem takeX67 {w : World} {rb ob : Nat} {s : Rst} (h : RStX w rb ob s) (hl : s.1.length ≤ 1000000000) : Calls Try.prog 67 #[hv ob, ptr rb] w fun e w' => e = .returned (.tuple #[]) ∧ Turn [rb, ob] w w' ∧ RStX w' rb ob (tkM 67 s) := by
  obtain ⟨va, vc, h⟩ := h
  refine (take67 h hl).mono ?_
  rintro e w' ⟨rfl, ht, a, c, h2⟩
  exact ⟨rfl, ht, a, c, h2⟩
def takesF (k : Int) : List Nat := if k = 1 then [61, 65, 63] else if k = 2 then [59, 61, 63] else if k = 3 then [59] else if k = 4 then [59, 67] else []
def st0 (l : List Int) (t : S) : Rst := ((rCount l 0 4).2.1, (rCount l 0 4).2.2, ⟨(rCount l 0 4).1, t, t, (0, 0), false, ⟨#[]⟩, none, 0, 0, []⟩)
def stE (l : List Int) (t : S) : Rst := (takesF (rCount l 0 4).1).foldl (fun s f => tkM f s) (st0 l t)
/-- The operation of bytes, and what is wrong with them. -/
def readM (l : List Int) (t : S) : OpT × Int :=
  if doneK (stE l t).1 (stE l t).2.1 ≠ 0 then (oz, doneK (stE l t).1 (stE l t).2.1)
  else if rightO (qv (stE l t).2.2 none 0) = true then ((stE l t).2.2, 0) else (oz, 4)
theorem right_qv (q : OpT) (va : Option Addr) (vc : Nat) : rightO (qv q va vc) = rightO (qv q none 0) := rfl
theorem results12 : Try.f12.results = #[.cell 4 26, .tmp 5] := rfl
/-- The result's block. -/
def ResB (w : World) (b : Nat) (q : OpT) : Prop := Blk w b 26 (oc q)
theorem ResB.put {w : World} {b : Nat} {q q' : OpT} (h : ResB w b q) : ResB (w.setCells b 0 (oc q')) b q' := by
  have := Blk.setCells h 0 (oc q') (by rw [oc_len, oc_len]; omega)
  rw [splice_all _ _ (by rw [oc_len, oc_len])] at this
  exact this
theorem ResB.ret {w : World} {b : Nat} {q : OpT} {k : Value} {tmps : Array Value} (h : ResB w b q) (h1 : tmps.getD 4 undef = ptr b) (h2 : tmps.getD 5 undef = k) : (results Try.f12 tmps).run Try.prog w = .ok (.tuple #[ov q, k]) w := by
  have hl := run_loadAt_mid (P := Try.prog) w b 0 26 (oc q) _ (Blk.range0 h) Try.underlying26 rfl (by rw [oc_len]; exact info26)
  rw [results_cell_tmp results12, h1, h2]
  have e1 : (asAddr (ptr b)).run Try.prog w = .ok ⟨b, 0, none⟩ w := rfl
  have e2 : (loadVar 26 ⟨b, 0, none⟩).run Try.prog w = .ok (ov q) w := run_loadVar_mid w b 0 26 (oc q) _ (Blk.range0 h) Try.underlying26 rfl (by rw [oc_len]; exact info26)
  rw [e1]
  simp only [Result.andThen_ok, e2]
theorem ResB.below {w w' : World} {b : Nat} {q : OpT} (h : ResB w b q) (hb : Below w.heap.size w w') : ResB w' b q := Blk.below h hb
theorem ResB.turn {w w' : World} {b rb ob : Nat} {q : OpT} (h : ResB w b q) (ht : Turn [rb, ob] w w') (h1 : b ≠ rb) (h2 : b ≠ ob) : ResB w' b q := Blk.block h (ht.block b (Blk.lt h) (by simp; exact ⟨h1, h2⟩))
theorem Blk.turn2 {w w' : World} {b rb ob : Nat} {e : TypeId} {vs : List Value} (h : Blk w b e vs) (ht : Turn [rb, ob] w w') (h1 : b ≠ rb) (h2 : b ≠ ob) : Blk w' b e vs := h.block (ht.block b h.lt (by simp; exact ⟨h1, h2⟩))
theorem Below.turn2 {B : Nat} {w0 w w' : World} {rb ob : Nat} (h : Below B w0 w) (ht : Turn [rb, ob] w w') (hB : B ≤ w.heap.size) (h1 : B ≤ rb) (h2 : B ≤ ob) : Below B w0 w' := h.trans (ht.below hB (fun k hk => by simp at hk; rcases hk with rfl | rfl <;> assumption))
theorem ResB.putAt {w wy : World} {b : Nat} {q q' : OpT} (h : ResB w b q) (e : wy = w.setCells b 0 (oc q')) : ResB wy b q' := by
  subst e
  exact h.put
theorem Below.putAt {B b : Nat} {w0 w wy : World} {xs : List Value} (h : Below B w0 w) (hB : B ≤ w0.heap.size) (hb : B ≤ b) (e : wy = w.setCells b 0 xs) : Below B w0 wy := by
  subst e
  exact h.grown (grown_setCells b xs 0 w) (Nat.le_trans hB h.size) fun k hk => by cases hk; exact hb
theorem Rd.putAt {w wy : World} {b : Nat} {q q' : OpT} {v : Value} {l : List Int} (h : Rd w v l) (hb : ResB w b q) (e : wy = w.setCells b 0 (oc q')) : Rd wy v l := by
  subst e
  exact h.pastX hb (oc_noB q) (grown_setCells _ _ _ _)
theorem read12 {w : World} {v : Value} {l : List Int} {t : S} (hv : Rd w v l) (hl : l.length ≤ 1000000) : Calls Try.prog 12 #[v, sv t] w fun e w' => ∃ va vc, e = .returned (.tuple #[ov (qv (readM l t).1 va vc), .int .i64 (readM l t).2]) ∧ Rd w' (qv (readM l t).1 va vc).v (readM l t).1.b ∧ Below w.heap.size w w' := by
  have HRD : Hid (∀ w', Below w.heap.size w w' → Calls Try.prog 33 #[v] w' fun e w'' => ∃ b, e = .returned (ptr b) ∧ w'.heap.size ≤ b ∧ Rdr w'' b l 0 ∧ w'.grownBy w'' none) := fun w' h => read_any w' v l (hv.below h) (by omega)
  have HCN : Hid (∀ w' rb, Rdr w' rb l 0 → Calls Try.prog 34 #[ptr rb, .int .i64 4] w' fun e w'' => e = .returned (.int .i64 (rCount l 0 4).1) ∧ Rdr w'' rb (rCount l 0 4).2.1 (rCount l 0 4).2.2 ∧ w'.grownBy w'' (some rb)) := fun w' rb h => rcount_any w' rb l 0 4 h (by omega)
  have HOL : Hid ((rCount l 0 4).2.1.length ≤ 1000000) := Nat.le_trans (rCount_len l 0 4 hv.oct) hl
  obtain ⟨t1, t2⟩ := t
  have HSE : Hid (stE l (t1, t2) = (takesF (rCount l 0 4).1).foldl (fun s f => tkM f s) ((rCount l 0 4).2.1, (rCount l 0 4).2.2, ⟨(rCount l 0 4).1, (t1, t2), (t1, t2), (0, 0), false, ⟨#[]⟩, none, 0, 0, []⟩)) := (rfl : stE l (t1, t2) = _)
  generalize (rCount l 0 4).1 = K at HCN HSE
  generalize (rCount l 0 4).2.1 = l0 at HCN HSE HOL
  generalize (rCount l 0 4).2.2 = k0 at HCN HSE
  obtain ⟨w1, hw1⟩ : ∃ w1, w1 = (w.alloc (.cells #[.int .i64 t1, .int .i64 t2] 23)).alloc (.cells #[.int .i64 0, .int .i64 0, .int .i64 0, .int .i64 0, .int .i64 0, .int .i64 0, .int .i64 0, .bool false, .string ⟨#[]⟩, .slice none 0 0] 26) := ⟨_, rfl⟩
  obtain ⟨B0, hB0⟩ : ∃ B0, B0 = w.heap.size := ⟨_, rfl⟩
  obtain ⟨B4, hB4⟩ : ∃ B4, B4 = w.heap.size + 1 := ⟨_, rfl⟩
  have HB1 : Hid (Below w.heap.size w w1) := by show Below _ _ _; rw [hw1]; exact balloc (balloc (Below.refl _ _) _) _
  have HS1 : Hid (w1.heap.size = w.heap.size + 2) := by show _ = _; rw [hw1]; simp
  have HX0 : Hid (Blk w1 B0 23 [.int .i64 t1, .int .i64 t2]) := by show Blk _ _ _ _; rw [hw1, hB0]; exact (blk_new w _ 23).alloc _
  have HX4 : Hid (ResB w1 B4 oz) := by
    show Blk _ _ _ _
    rw [hw1, hB4]
    have := blk_new (w.alloc (.cells #[.int .i64 t1, .int .i64 t2] 23)) (oc oz) 26
    simpa [oc, oz] using this
  have HBN : Hid (B0 = w.heap.size ∧ B4 = w.heap.size + 1) := ⟨hB0, hB4⟩
  clear hv hl
  unfold sv
  dsimp only
  go_enter Try.func12, Try.ntmps12
  go_upto_region 1 with fail
  rw [← hB4]
  rw [← hB0]
  rw [← hw1]
  clear hw1 hB0 hB4
  go_upto_region 2 with (go_at_call 33; go_must (refine (HRD.out _ HB1.out).mono ?_; rintro r w2 ⟨rb, rfl, hrb, hrd, hg2⟩; have HB2 : Hid (Below w1.heap.size w1 w2) := grown_below hg2; have HRB : Hid (w1.heap.size ≤ rb) := hrb; have HRR : Hid (Rdr w2 rb l 0) := hrd; clear hrb hrd hg2))
  go_cut [7] (fun vv wx => ∃ ob, vv = ptr ob ∧ Hid (RStX wx rb ob (l0, k0, ⟨K, (t1, t2), (t1, t2), (0, 0), false, ⟨#[]⟩, none, 0, 0, []⟩)) ∧ Hid (ResB wx B4 oz) ∧ Hid (Below w.heap.size w wx) ∧ Hid (w.heap.size ≤ rb ∧ w.heap.size ≤ ob ∧ w.heap.size ≤ B4 ∧ B4 ≠ rb ∧ B4 ≠ ob))
  case first =>
    have hX2 : Blk w2 B0 23 [.int .i64 t1, .int .i64 t2] := HX0.out.below HB2.out
    have HX2 : Hid (Blk w2 B0 23 [.int .i64 t1, .int .i64 t2]) := hX2
    have HZ2 : Hid (ResB w2 B4 oz) := HX4.out.below HB2.out
    have hbn := HBN.out
    have hrl := HRR.out.lt
    have HNN : Hid (B0 ≠ rb ∧ B4 ≠ rb ∧ B0 < w2.heap.size ∧ B4 < w2.heap.size ∧ w.heap.size ≤ rb ∧ w.heap.size ≤ B4) := by
      have h1 := HRB.out; have h2 := HS1.out; have h3 := hX2.lt; have h4 := Blk.lt HZ2.out
      show _ ∧ _
      omega
    have HBW2 : Hid (Below w.heap.size w w2) := (show Below _ _ _ from HB1.out.trans (HB2.out.mono HB1.out.size))
    clear hbn hrl hX2 HX0 HX4 HBN HS1 HRD HSE
    have c0 := fun z : WIn (fun w' => Blk w' B0 23 [.int .i64 t1, .int .i64 t2]) => z.ok.cell 0 _ rfl
    have c1 := fun z : WIn (fun w' => Blk w' B0 23 [.int .i64 t1, .int .i64 t2]) => z.ok.cell 1 _ rfl
    have ne : Nonempty (WIn (fun w' => Blk w' B0 23 [.int .i64 t1, .int .i64 t2])) := ⟨⟨w2, HX2.out⟩⟩
    refine wp_region_tree (C := fun w' => ∃ z : WIn (fun w' => Blk w' B0 23 [.int .i64 t1, .int .i64 t2]), w' = z.w) (.still 0 (.still 2 (.still 3 (.two 1 (.still 4 (.one 5 (.one 6 .done))) 5 (.one 1 (.still 4 (.one 6 .done))))))) (by kernel_rfl) (by kernel_rfl) ⟨⟨w2.drew, HX2.out.drew⟩, rfl⟩ ?_
    have HX2 : Hid (Blk w2.drew B0 23 [.int .i64 t1, .int .i64 t2]) := (show Blk _ _ _ _ from HX2.out.drew)
    have HZ2 : Hid (ResB w2.drew B4 oz) := (show Blk _ _ _ _ from Blk.drew HZ2.out)
    have HRR : Hid (Rdr w2.drew rb l 0) := (show Rdr _ _ _ _ from HRR.out.kept (below_grown (below_drewn w2 1)))
    have HNN : Hid (B0 ≠ rb ∧ B4 ≠ rb ∧ B0 < w2.drew.heap.size ∧ B4 < w2.drew.heap.size ∧ w.heap.size ≤ rb ∧ w.heap.size ≤ B4) := HNN
    have HBW2 : Hid (Below w.heap.size w w2.drew) := (show Below _ _ _ from HBW2.out.trans ((below_drewn w2 1).mono HBW2.out.size))
    generalize w2.drew = wd at *
    iterate 3 (refine tree_still rfl rfl ?_; go_big_quiet_step (fail); refine wpQuiet_nil ?_)
    refine tree_two rfl rfl rfl rfl ?_ ?_
    · go_simp
      refine (HCN.out wd rb HRR.out).mono ?_
      rintro r w3 ⟨rfl, hr3, hG3⟩
      have HX3 : Hid (Blk w3 B0 23 [.int .i64 t1, .int .i64 t2]) := (show Blk _ _ _ _ from HX2.out.past hG3 (fun e => HNN.out.1 e))
      refine ⟨⟨⟨w3, HX3.out⟩, rfl⟩, ?_⟩
      go_simp
      refine tree_still rfl rfl ?_; go_big_quiet_step (fail); refine wpQuiet_nil ?_
      refine tree_one rfl rfl ?_
      go_simp
      obtain ⟨w4, hw4⟩ : ∃ w4, w4 = w3.alloc (.cells #[.int .i64 0, .int .i64 0, .int .i64 0, .int .i64 0, .int .i64 0, .int .i64 0, .int .i64 0, .bool false, .string ⟨#[]⟩, .slice none 0 0] 26) := ⟨_, rfl⟩
      obtain ⟨ob, hob⟩ : ∃ ob, ob = w3.heap.size := ⟨_, rfl⟩
      rw [← hw4, ← hob]
      have hBelow : Below w3.heap.size w3 w4 := by rw [hw4]; exact balloc (Below.refl _ _) _
      have hBL : Blk w4 ob 26 (oc oz) := by
        rw [hw4, hob]
        have := blk_new w3 (oc oz) 26
        simpa [oc, oz] using this
      have hXL : Blk w4 B0 23 [.int .i64 t1, .int .i64 t2] := HX3.out.below hBelow
      have hRL : Rdr w4 rb l0 k0 := hr3.kept (below_grown hBelow)
      have hZL : ResB w4 B4 oz := ResB.below (Blk.past HZ2.out hG3 (fun e => HNN.out.2.1 e)) hBelow
      have hs3 := hG3.size
      have hBWL : Below w.heap.size w w4 := (bgrown HBW2.out HNN.out.2.2.2.2.1 hG3).trans (hBelow.mono (Nat.le_trans HBW2.out.size hs3))
      have hrl := hr3.lt
      have hn1 : B0 ≠ ob := by have := HNN.out.2.2.1; omega
      have hn2 : B4 ≠ ob := by have := HNN.out.2.2.2.1; omega
      have hn3 : rb ≠ ob := by omega
      have hn4 : w.heap.size ≤ ob := by have := HBW2.out.size; omega
      refine ⟨⟨⟨w4, hXL⟩, rfl⟩, ?_⟩
      clear hw4 hob hBelow hs3 hrl
      obtain ⟨w6, hw6⟩ : ∃ w6, w6 = w4.setCells ob 0 (oc (⟨K, (t1, t2), (t1, t2), (0, 0), false, ⟨#[]⟩, none, 0, 0, []⟩ : OpT)) := ⟨_, rfl⟩
      have hG6 : w4.grownBy w6 (some ob) := by rw [hw6]; exact grown_setCells _ _ _ _
      have hB6 : Blk w6 ob 26 (oc (⟨K, (t1, t2), (t1, t2), (0, 0), false, ⟨#[]⟩, none, 0, 0, []⟩ : OpT)) := by
        rw [hw6]
        have := hBL.setCells 0 (oc (⟨K, (t1, t2), (t1, t2), (0, 0), false, ⟨#[]⟩, none, 0, 0, []⟩ : OpT)) (by rw [oc_len, oc_len]; omega)
        rw [splice_all _ _ (by rw [oc_len, oc_len])] at this
        exact this
      have HW6 : Hid (w6 = w4.setCells ob 0 (oc (⟨K, (t1, t2), (t1, t2), (0, 0), false, ⟨#[]⟩, none, 0, 0, []⟩ : OpT))) := hw6
      have HX6 : Hid (Blk w6 B0 23 [.int .i64 t1, .int .i64 t2]) := (show Blk _ _ _ _ from hXL.past hG6 (fun e => hn1 e))
      have HEnd : Hid (RStX w6 rb ob (l0, k0, ⟨K, (t1, t2), (t1, t2), (0, 0), false, ⟨#[]⟩, none, 0, 0, []⟩)) := (show RStX _ _ _ _ from ⟨none, 0, hRL.pastX hBL (oc_noB oz) hG6 hn3, hB6, rd_nil _, hn3⟩)
      have HEnd4 : Hid (ResB w6 B4 oz) := (show Blk _ _ _ _ from Blk.past hZL hG6 (fun e => hn2 e))
      have HEndB : Hid (Below w.heap.size w w6) := (show Below _ _ _ from bgrown hBWL hn4 hG6)
      have HEndN : Hid (w.heap.size ≤ rb ∧ w.heap.size ≤ ob ∧ w.heap.size ≤ B4 ∧ B4 ≠ rb ∧ B4 ≠ ob) := ⟨HNN.out.2.2.2.2.1, hn4, HNN.out.2.2.2.2.2, HNN.out.2.1, fun e => hn2 e⟩
      have HTL : Hid (w4.there ob 0 10) := hBL.there 0 10 (by rw [oc_len]; omega)
      clear hw6 hG6 hB6 hBL hXL hRL hZL hBWL hn1 hn2 hn3 hn4
      refine tree_one rfl rfl ?_
      refine wp_skip (exec_store26 (q := ⟨K, (t1, t2), (t1, t2), (0, 0), false, ⟨#[]⟩, none, 0, 0, []⟩) (.tmp 7) (.tmp 17) rfl rfl rfl HTL.out) ?_
      rw [← HW6.out]
      refine ⟨⟨⟨w6, HX6.out⟩, rfl⟩, ?_⟩
      go_simp
      refine tree_done ?_
      clear c0 c1 ne
      go_wp2
      go_meet
      exact ⟨ob, rfl, HEnd, HEnd4, HEndB, HEndN⟩
    · go_simp
      obtain ⟨w3, hw3⟩ : ∃ w3, w3 = wd.alloc (.cells #[.int .i64 0, .int .i64 0, .int .i64 0, .int .i64 0, .int .i64 0, .int .i64 0, .int .i64 0, .bool false, .string ⟨#[]⟩, .slice none 0 0] 26) := ⟨_, rfl⟩
      obtain ⟨ob, hob⟩ : ∃ ob, ob = wd.heap.size := ⟨_, rfl⟩
      rw [← hw3, ← hob]
      have hBelow : Below wd.heap.size wd w3 := by rw [hw3]; exact balloc (Below.refl _ _) _
      have hBL3 : Blk w3 ob 26 (oc oz) := by
        rw [hw3, hob]
        have := blk_new wd (oc oz) 26
        simpa [oc, oz] using this
      have HX3 : Hid (Blk w3 B0 23 [.int .i64 t1, .int .i64 t2]) := (show Blk _ _ _ _ from HX2.out.below hBelow)
      have HRR3 : Hid (Rdr w3 rb l 0) := (show Rdr _ _ _ _ from HRR.out.kept (below_grown hBelow))
      have HZ3 : Hid (ResB w3 B4 oz) := (show ResB _ _ _ from HZ2.out.below hBelow)
      have HBW3 : Hid (Below w.heap.size w w3) := (show Below _ _ _ from HBW2.out.trans (hBelow.mono HBW2.out.size))
      have hrl := HRR.out.lt
      have HN3 : Hid (B0 ≠ ob ∧ B4 ≠ ob ∧ rb ≠ ob ∧ w.heap.size ≤ ob) := by
        have := HNN.out; have := HBW2.out.size
        show _ ∧ _
        omega
      have HBL3 : Hid (Blk w3 ob 26 (oc oz)) := hBL3
      refine ⟨⟨⟨w3, HX3.out⟩, rfl⟩, ?_⟩
      clear hw3 hob hBelow hrl hBL3
      refine tree_one rfl rfl ?_
      go_simp
      refine (HCN.out w3 rb HRR3.out).mono ?_
      rintro r w5 ⟨rfl, hRL, hG3⟩
      have hBL : Blk w5 ob 26 (oc oz) := HBL3.out.past hG3 (fun e => HN3.out.2.2.1 e.symm)
      have hXL : Blk w5 B0 23 [.int .i64 t1, .int .i64 t2] := HX3.out.past hG3 (fun e => HNN.out.1 e)
      have hZL : ResB w5 B4 oz := Blk.past HZ3.out hG3 (fun e => HNN.out.2.1 e)
      have hBWL : Below w.heap.size w w5 := bgrown HBW3.out HNN.out.2.2.2.2.1 hG3
      have hn1 := HN3.out.1
      have hn2 := HN3.out.2.1
      have hn3 := HN3.out.2.2.1
      have hn4 := HN3.out.2.2.2
      refine ⟨⟨⟨w5, hXL⟩, rfl⟩, ?_⟩
      go_simp
      refine tree_still rfl rfl ?_; go_big_quiet_step (fail); refine wpQuiet_nil ?_
      clear hG3
      obtain ⟨w6, hw6⟩ : ∃ w6, w6 = w5.setCells ob 0 (oc (⟨K, (t1, t2), (t1, t2), (0, 0), false, ⟨#[]⟩, none, 0, 0, []⟩ : OpT)) := ⟨_, rfl⟩
      have hG6 : w5.grownBy w6 (some ob) := by rw [hw6]; exact grown_setCells _ _ _ _
      have hB6 : Blk w6 ob 26 (oc (⟨K, (t1, t2), (t1, t2), (0, 0), false, ⟨#[]⟩, none, 0, 0, []⟩ : OpT)) := by
        rw [hw6]
        have := hBL.setCells 0 (oc (⟨K, (t1, t2), (t1, t2), (0, 0), false, ⟨#[]⟩, none, 0, 0, []⟩ : OpT)) (by rw [oc_len, oc_len]; omega)
        rw [splice_all _ _ (by rw [oc_len, oc_len])] at this
        exact this
      have HW6 : Hid (w6 = w5.setCells ob 0 (oc (⟨K, (t1, t2), (t1, t2), (0, 0), false, ⟨#[]⟩, none, 0, 0, []⟩ : OpT))) := hw6
      have HX6 : Hid (Blk w6 B0 23 [.int .i64 t1, .int .i64 t2]) := (show Blk _ _ _ _ from hXL.past hG6 (fun e => hn1 e))
      have HEnd : Hid (RStX w6 rb ob (l0, k0, ⟨K, (t1, t2), (t1, t2), (0, 0), false, ⟨#[]⟩, none, 0, 0, []⟩)) := (show RStX _ _ _ _ from ⟨none, 0, hRL.pastX hBL (oc_noB oz) hG6 hn3, hB6, rd_nil _, hn3⟩)
      have HEnd4 : Hid (ResB w6 B4 oz) := (show Blk _ _ _ _ from Blk.past hZL hG6 (fun e => hn2 e))
      have HEndB : Hid (Below w.heap.size w w6) := (show Below _ _ _ from bgrown hBWL hn4 hG6)
      have HEndN : Hid (w.heap.size ≤ rb ∧ w.heap.size ≤ ob ∧ w.heap.size ≤ B4 ∧ B4 ≠ rb ∧ B4 ≠ ob) := ⟨HNN.out.2.2.2.2.1, hn4, HNN.out.2.2.2.2.2, HNN.out.2.1, fun e => hn2 e⟩
      have HTL : Hid (w5.there ob 0 10) := hBL.there 0 10 (by rw [oc_len]; omega)
      clear hw6 hG6 hB6 hBL hXL hRL hZL hBWL hn1 hn2 hn3 hn4
      refine tree_one rfl rfl ?_
      refine wp_skip (exec_store26 (q := ⟨K, (t1, t2), (t1, t2), (0, 0), false, ⟨#[]⟩, none, 0, 0, []⟩) (.tmp 7) (.tmp 17) rfl rfl rfl HTL.out) ?_
      rw [← HW6.out]
      refine ⟨⟨⟨w6, HX6.out⟩, rfl⟩, ?_⟩
      go_simp
      refine tree_done ?_
      clear c0 c1 ne
      go_wp2
      go_meet
      exact ⟨ob, rfl, HEnd, HEnd4, HEndB, HEndN⟩
  case rest =>
    obtain ⟨ob, rfl, HS0, HR0, HBW0, HNB⟩ := hcut
    by_cases k1 : K = 1
    · subst k1
      clear HRD HCN HX0 HX4 HBN HS1 HB1 HB2 HRB HRR
      have HPT : Hid (Calls Try.prog 28 #[hv ob] wc fun e w'' => ∃ pb, e = .returned (.slice (some ⟨pb, 0, none⟩) 3 3) ∧ wc.heap.size ≤ pb ∧ Blk w'' pb 58 [mf 60 ob, mf 61 ob, mf 64 ob, mf 65 ob, mf 62 ob, mf 63 ob] ∧ Below wc.heap.size wc w'') := by
        obtain ⟨va, vc, h⟩ := HS0.out
        exact parts28_1 h.blk
      have HSE2 : Hid (stE l (t1, t2) = (tkM 63 (tkM 65 (tkM 61 (l0, k0, (⟨1, (t1, t2), (t1, t2), (0, 0), false, ⟨#[]⟩, none, 0, 0, []⟩ : OpT)))))) := HSE.out
      have HLE : Hid (((l0, k0, (⟨1, (t1, t2), (t1, t2), (0, 0), false, ⟨#[]⟩, none, 0, 0, []⟩ : OpT))).1.length ≤ 1000000 ∧ ((tkM 61 (l0, k0, (⟨1, (t1, t2), (t1, t2), (0, 0), false, ⟨#[]⟩, none, 0, 0, []⟩ : OpT)))).1.length ≤ 1000000 ∧ ((tkM 65 (tkM 61 (l0, k0, (⟨1, (t1, t2), (t1, t2), (0, 0), false, ⟨#[]⟩, none, 0, 0, []⟩ : OpT))))).1.length ≤ 1000000) := by
        have h0 : ((l0, k0, (⟨1, (t1, t2), (t1, t2), (0, 0), false, ⟨#[]⟩, none, 0, 0, []⟩ : OpT))).1.length ≤ 1000000 := HOL.out
        obtain ⟨va, vc, h⟩ := HS0.out
        have o0 : Oct (l0, k0, (⟨1, (t1, t2), (t1, t2), (0, 0), false, ⟨#[]⟩, none, 0, 0, []⟩ : OpT)).1 := h.rd.oct
        have o1 := tkM_oct 61 _ o0
        have l1 := tkM_len 61 _ o0
        have o2 := tkM_oct 65 _ o1
        have l2 := tkM_len 65 _ o1
        exact ⟨h0, by omega, by omega⟩
      clear HSE
      obtain ⟨S0, hS0⟩ : ∃ S0 : Rst, S0 = (l0, k0, (⟨1, (t1, t2), (t1, t2), (0, 0), false, ⟨#[]⟩, none, 0, 0, []⟩ : OpT)) := ⟨_, rfl⟩
      rw [← hS0] at HS0 HSE2 HLE
      clear hS0
      obtain ⟨S1, hS1⟩ : ∃ S1 : Rst, S1 = tkM 61 S0 := ⟨_, rfl⟩
      have HQ1 : Hid (S1 = tkM 61 S0) := hS1
      rw [← hS1] at HSE2
      rw [← hS1] at HLE
      clear hS1
      obtain ⟨S2, hS2⟩ : ∃ S2 : Rst, S2 = tkM 65 S1 := ⟨_, rfl⟩
      have HQ2 : Hid (S2 = tkM 65 S1) := hS2
      rw [← hS2] at HSE2
      rw [← hS2] at HLE
      clear hS2
      obtain ⟨S3, hS3⟩ : ∃ S3 : Rst, S3 = tkM 63 S2 := ⟨_, rfl⟩
      have HQ3 : Hid (S3 = tkM 63 S2) := hS3
      rw [← hS3] at HSE2
      clear hS3
      go_wp2_with (go_at_call 28; go_must (refine HPT.out.mono ?_; rintro r w4 ⟨pb, rfl, hpl, hpb, hb4⟩; have HS4 : Hid (RStX w4 rb ob S0) := HS0.out.below hb4; have HR4a : Hid (ResB w4 B4 oz) := HR0.out.below hb4; have HBW4 : Hid (Below w.heap.size w w4) := (show Below _ _ _ from HBW0.out.trans (hb4.mono HBW0.out.size)); have HP4 : Hid (Blk w4 pb 58 [mf 60 ob, mf 61 ob, mf 64 ob, mf 65 ob, mf 62 ob, mf 63 ob]) := hpb; have HPN : Hid (pb ≠ rb ∧ pb ≠ ob) := (show _ ∧ _ by (obtain ⟨va, vc, h⟩ := HS0.out; have h1 := h.rd.lt; have h2 := h.blk.lt; omega)); clear hb4 hpl hpb))
      go_loopw [21] (fun i wr => ∃ (j : Nat) (S : Rst), i = .int .i64 (j : Int) ∧ j ≤ 3 ∧ Hid ((j = 0 ∧ S = S0) ∨ (j = 1 ∧ S = S1) ∨ (j = 2 ∧ S = S2) ∨ (j = 3 ∧ S = S3)) ∧ Hid (RStX wr rb ob S) ∧ Hid (ResB wr B4 oz) ∧ Hid (Blk wr pb 58 [mf 60 ob, mf 61 ob, mf 64 ob, mf 65 ob, mf 62 ob, mf 63 ob]) ∧ Hid (Below w.heap.size w wr)) (fun i _ => 3 - (intOf i).toNat)
      case atStart => exact ⟨0, S0, rfl, by omega, .inl ⟨rfl, rfl⟩, HS4, HR4a, HP4, HBW4⟩
      case round =>
        obtain ⟨j, S, rfl, hj, HJ, HS, HR4, HP, HBW⟩ := hrel
        have hpl := HP.out.lt
        match j, hj, HJ with
        | 0, _, HJ =>
          have hSS : S0 = S := Eq.symm (by have h := HJ.out; simpa using h)
          subst hSS
          have f0 := HP.out.cell 0 _ rfl
          have f1 := HP.out.cell 1 _ rfl
          have HBa : Hid (Below wr.heap.size wr (wr.alloc (.cells #[mf 60 ob, mf 61 ob] 58))) := (show Below _ _ _ from balloc (Below.refl _ _) _)
          have HCa : Hid (Calls Try.prog 61 #[hv ob, ptr rb] (wr.alloc (.cells #[mf 60 ob, mf 61 ob] 58)) fun e w' => e = .returned (.tuple #[]) ∧ Turn [rb, ob] (wr.alloc (.cells #[mf 60 ob, mf 61 ob] 58)) w' ∧ RStX w' rb ob (tkM 61 S0)) := takeX61 (HS.out.below HBa.out) (Nat.le_trans HLE.out.1 (by omega))
          go_wp2_with (go_at_call 61; go_must (refine HCa.out.mono ?_; rintro r w6 ⟨rfl, ht6, hs6⟩; have HS6 : Hid (RStX w6 rb ob (tkM 61 S0)) := hs6; have HR6 : Hid (ResB w6 B4 oz) := ResB.turn (HR4.out.below HBa.out) ht6 HNB.out.2.2.2.1 HNB.out.2.2.2.2; have HP6 : Hid (Blk w6 pb 58 [mf 60 ob, mf 61 ob, mf 64 ob, mf 65 ob, mf 62 ob, mf 63 ob]) := Blk.turn2 (HP.out.below HBa.out) ht6 HPN.out.1 HPN.out.2; have HB6 : Hid (Below w.heap.size w w6) := (show Below _ _ _ from Below.turn2 (HBW.out.trans (HBa.out.mono HBW.out.size)) ht6 (Nat.le_trans HBW.out.size HBa.out.size) HNB.out.1 HNB.out.2.1); clear ht6 hs6))
          go_roundw
          case rel => exact ⟨1, tkM 61 S0, by go_num, by omega, (.inr (.inl ⟨rfl, (by first | rfl | exact HQ1.out.symm)⟩)), by first | exact HS6 | (rw [← HQ1.out]; exact HS6), HR6, HP6, HB6⟩
          case measure => simp [intOf] <;> omega
        | 1, _, HJ =>
          have hSS : S1 = S := Eq.symm (by have h := HJ.out; simpa using h)
          subst hSS
          have f0 := HP.out.cell 2 _ rfl
          have f1 := HP.out.cell 3 _ rfl
          have HBa : Hid (Below wr.heap.size wr (wr.alloc (.cells #[mf 64 ob, mf 65 ob] 58))) := (show Below _ _ _ from balloc (Below.refl _ _) _)
          have HCa : Hid (Calls Try.prog 65 #[hv ob, ptr rb] (wr.alloc (.cells #[mf 64 ob, mf 65 ob] 58)) fun e w' => e = .returned (.tuple #[]) ∧ Turn [rb, ob] (wr.alloc (.cells #[mf 64 ob, mf 65 ob] 58)) w' ∧ RStX w' rb ob (tkM 65 S1)) := takeX65 (HS.out.below HBa.out) (Nat.le_trans HLE.out.2.1 (by omega))
          go_wp2_with (go_at_call 65; go_must (refine HCa.out.mono ?_; rintro r w6 ⟨rfl, ht6, hs6⟩; have HS6 : Hid (RStX w6 rb ob (tkM 65 S1)) := hs6; have HR6 : Hid (ResB w6 B4 oz) := ResB.turn (HR4.out.below HBa.out) ht6 HNB.out.2.2.2.1 HNB.out.2.2.2.2; have HP6 : Hid (Blk w6 pb 58 [mf 60 ob, mf 61 ob, mf 64 ob, mf 65 ob, mf 62 ob, mf 63 ob]) := Blk.turn2 (HP.out.below HBa.out) ht6 HPN.out.1 HPN.out.2; have HB6 : Hid (Below w.heap.size w w6) := (show Below _ _ _ from Below.turn2 (HBW.out.trans (HBa.out.mono HBW.out.size)) ht6 (Nat.le_trans HBW.out.size HBa.out.size) HNB.out.1 HNB.out.2.1); clear ht6 hs6))
          go_roundw
          case rel => exact ⟨2, tkM 65 S1, by go_num, by omega, (.inr (.inr (.inl ⟨rfl, (by first | rfl | exact HQ2.out.symm)⟩))), by first | exact HS6 | (rw [← HQ2.out]; exact HS6), HR6, HP6, HB6⟩
          case measure => simp [intOf] <;> omega
        | 2, _, HJ =>
          have hSS : S2 = S := Eq.symm (by have h := HJ.out; simpa using h)
          subst hSS
          have f0 := HP.out.cell 4 _ rfl
          have f1 := HP.out.cell 5 _ rfl
          have HBa : Hid (Below wr.heap.size wr (wr.alloc (.cells #[mf 62 ob, mf 63 ob] 58))) := (show Below _ _ _ from balloc (Below.refl _ _) _)
          have HCa : Hid (Calls Try.prog 63 #[hv ob, ptr rb] (wr.alloc (.cells #[mf 62 ob, mf 63 ob] 58)) fun e w' => e = .returned (.tuple #[]) ∧ Turn [rb, ob] (wr.alloc (.cells #[mf 62 ob, mf 63 ob] 58)) w' ∧ RStX w' rb ob (tkM 63 S2)) := takeX63 (HS.out.below HBa.out) (Nat.le_trans HLE.out.2.2 (by omega))
          go_wp2_with (go_at_call 63; go_must (refine HCa.out.mono ?_; rintro r w6 ⟨rfl, ht6, hs6⟩; have HS6 : Hid (RStX w6 rb ob (tkM 63 S2)) := hs6; have HR6 : Hid (ResB w6 B4 oz) := ResB.turn (HR4.out.below HBa.out) ht6 HNB.out.2.2.2.1 HNB.out.2.2.2.2; have HP6 : Hid (Blk w6 pb 58 [mf 60 ob, mf 61 ob, mf 64 ob, mf 65 ob, mf 62 ob, mf 63 ob]) := Blk.turn2 (HP.out.below HBa.out) ht6 HPN.out.1 HPN.out.2; have HB6 : Hid (Below w.heap.size w w6) := (show Below _ _ _ from Below.turn2 (HBW.out.trans (HBa.out.mono HBW.out.size)) ht6 (Nat.le_trans HBW.out.size HBa.out.size) HNB.out.1 HNB.out.2.1); clear ht6 hs6))
          go_roundw
          case rel => exact ⟨3, tkM 63 S2, by go_num, by omega, (.inr (.inr (.inr ⟨rfl, (by first | rfl | exact HQ3.out.symm)⟩))), by first | exact HS6 | (rw [← HQ3.out]; exact HS6), HR6, HP6, HB6⟩
          case measure => simp [intOf] <;> omega
        | 3, _, HJ =>
          have hSS : S3 = S := Eq.symm (by have h := HJ.out; simpa using h)
          subst hSS
          have HSE : Hid (stE l (t1, t2) = S3) := (show _ = _ from HSE2.out)
          have HDN : Hid (Calls Try.prog 35 #[ptr rb] wr fun e w'' => e = .returned (.int .i64 (doneK (S3).1 (S3).2.1)) ∧ w'' = wr) := by
            obtain ⟨va, vc, h⟩ := HS.out
            exact done_any wr rb _ _ h.rd
          have HFIN : Hid ((doneK (S3).1 (S3).2.1 ≠ 0 → readM l (t1, t2) = (oz, doneK (S3).1 (S3).2.1)) ∧ (doneK (S3).1 (S3).2.1 = 0 → rightO (qv (S3).2.2 none 0) = true → readM l (t1, t2) = ((S3).2.2, 0)) ∧ (doneK (S3).1 (S3).2.1 = 0 → rightO (qv (S3).2.2 none 0) = false → readM l (t1, t2) = (oz, 4))) := by
            have e := HSE.out
            refine ⟨fun h => ?_, fun h h2 => ?_, fun h h2 => ?_⟩
            · unfold readM; rw [e, if_pos h]
            · unfold readM; rw [e, if_neg (by rw [h]; simp), if_pos h2]
            · unfold readM; rw [e, if_neg (by rw [h]; simp), if_neg (by rw [h2]; simp)]
          generalize hdk : doneK (S3).1 (S3).2.1 = D at HDN HFIN
          have HT4 : Hid (wr.there B4 0 10) := Blk.there HR4.out 0 10 (by first | (rw [oc_len]; done) | (rw [oc_len]; omega))
          obtain ⟨wz, hwz⟩ : ∃ wz, wz = wr.setCells B4 0 (oc oz) := ⟨_, rfl⟩
          have HWZ : Hid (wz = wr.setCells B4 0 (oc oz)) := hwz
          have HRZ : Hid (ResB wz B4 oz) := by show ResB _ _ _; rw [hwz]; exact HR4.out.put
          have HBZ : Hid (Below w.heap.size w wz) := by show Below _ _ _; rw [hwz]; exact bgrown HBW.out HNB.out.2.2.1 (grown_setCells _ _ _ _)
          clear hwz hdk HSE
          by_cases hD : D = 0
          · subst hD
            obtain ⟨qa, qc, hQ⟩ := HS.out
            have HQD : Hid (Rd wr (qv (S3).2.2 qa qc).v (S3).2.2.b) := hQ.dat
            have HRT : Hid (∀ w', Calls Try.prog 16 #[ov (qv (S3).2.2 qa qc)] w' fun e w'' => e = .returned (.bool (rightO (qv (S3).2.2 none 0))) ∧ Below w'.heap.size w' w'') := fun w' => by rw [← right_qv (S3).2.2 qa qc]; exact right16 _ w'
            have HLQ : Hid (wr.rangeAt ob 0 (oc (qv (S3).2.2 qa qc))) := hQ.blk.range0
            have HLB : Hid (∀ w', Below wr.heap.size wr w' → w'.rangeAt ob 0 (oc (qv (S3).2.2 qa qc))) := fun w' h => (hQ.blk.below h).range0
            clear hQ
            cases hR : rightO (qv (S3).2.2 none 0)
            · rw [hR] at HRT
              have HE : Hid (readM l (t1, t2) = (oz, 4)) := HFIN.out.2.2 rfl hR
              go_wp2_with (first
                | (go_at_call 35; go_must (refine HDN.out.mono ?_; rintro r w7 ⟨rfl, hw7⟩; replace hw7 := hw7.symm; subst hw7))
                | (refine wpList_ok rfl (exec_load26 (q := qv (S3).2.2 qa qc) (.tmp 7) rfl rfl HLQ.out) ?_)
                | (go_at_call 16; go_must (refine (HRT.out _).mono ?_; rintro r w8 ⟨rfl, hb8⟩; have HB8 : Hid (Below wr.heap.size wr w8) := hb8; have HT8 : Hid (w8.there B4 0 10) := Blk.there (HR4.out.below hb8) 0 10 (by first | (rw [oc_len]; done) | (rw [oc_len]; omega)); obtain ⟨wy, hwy⟩ : ∃ wy, wy = w8.setCells B4 0 (oc oz) := ⟨_, rfl⟩; have HWY : Hid (wy = w8.setCells B4 0 (oc oz)) := hwy; have HRY : Hid (ResB wy B4 oz) := (HR4.out.below hb8).putAt hwy; have HBY : Hid (Below w.heap.size w wy) := Below.putAt (HBW.out.trans (hb8.mono HBW.out.size)) (Nat.le_refl _) HNB.out.2.2.1 hwy; clear hb8 hwy))
                | (refine wpList_skip rfl (exec_store26 (q := oz) (.tmp 4) (.tmp 39) rfl rfl rfl HT8.out) ?_; rw [← HWY.out]))
              exact bodyPost_ret (v := .tuple #[ov oz, .int .i64 4]) (HRY.out.ret rfl rfl) rfl ⟨none, 0, by rw [HE.out]; rfl, by rw [HE.out]; exact rd_nil _, HBY.out⟩
            · rw [hR] at HRT
              have HE : Hid (readM l (t1, t2) = ((S3).2.2, 0)) := HFIN.out.2.1 rfl hR
              go_wp2_with (first
                | (go_at_call 35; go_must (refine HDN.out.mono ?_; rintro r w7 ⟨rfl, hw7⟩; replace hw7 := hw7.symm; subst hw7))
                | (refine wpList_ok rfl (exec_load26 (q := qv (S3).2.2 qa qc) (.tmp 7) rfl rfl HLQ.out) ?_)
                | (go_at_call 16; go_must (refine (HRT.out _).mono ?_; rintro r w8 ⟨rfl, hb8⟩; have HB8 : Hid (Below wr.heap.size wr w8) := hb8; have HL8 : Hid (w8.rangeAt ob 0 (oc (qv (S3).2.2 qa qc))) := HLB.out w8 hb8; have HT8 : Hid (w8.there B4 0 10) := Blk.there (HR4.out.below hb8) 0 10 (by first | (rw [oc_len]; done) | (rw [oc_len]; omega)); obtain ⟨wy, hwy⟩ : ∃ wy, wy = w8.setCells B4 0 (oc (qv (S3).2.2 qa qc)) := ⟨_, rfl⟩; have HWY : Hid (wy = w8.setCells B4 0 (oc (qv (S3).2.2 qa qc))) := hwy; have HRY : Hid (ResB wy B4 (qv (S3).2.2 qa qc)) := (HR4.out.below hb8).putAt hwy; have HQY : Hid (Rd wy (qv (S3).2.2 qa qc).v (S3).2.2.b) := (HQD.out.below hb8).putAt (HR4.out.below hb8) hwy; have HBY : Hid (Below w.heap.size w wy) := Below.putAt (HBW.out.trans (hb8.mono HBW.out.size)) (Nat.le_refl _) HNB.out.2.2.1 hwy; clear hb8 hwy))
                | (refine wpList_ok rfl (exec_load26 (q := qv (S3).2.2 qa qc) (.tmp 7) rfl rfl HL8.out) ?_)
                | (refine wpList_skip rfl (exec_store26 (q := qv (S3).2.2 qa qc) (.tmp 4) (.tmp 40) rfl rfl rfl HT8.out) ?_; rw [← HWY.out]))
              exact bodyPost_ret (v := .tuple #[ov (qv (S3).2.2 qa qc), .int .i64 0]) (HRY.out.ret rfl rfl) rfl ⟨qa, qc, by rw [HE.out], by rw [HE.out]; exact HQY.out, HBY.out⟩
          · have hDb : (D != 0) = true := by simpa using hD
            have HE : Hid (readM l (t1, t2) = (oz, D)) := HFIN.out.1 hD
            go_wp2_with (first
              | (go_at_call 35; go_must (refine HDN.out.mono ?_; rintro r w7 ⟨rfl, hw7⟩; replace hw7 := hw7.symm; subst hw7))
              | (refine wpList_skip rfl (exec_store26 (q := oz) (.tmp 4) (.tmp 34) rfl rfl rfl HT4.out) ?_; rw [← HWZ.out]))
            exact bodyPost_ret (v := .tuple #[ov oz, .int .i64 D]) (HRZ.out.ret rfl rfl) rfl ⟨none, 0, by rw [HE.out]; rfl, by rw [HE.out]; exact rd_nil _, HBZ.out⟩
        | j + 4, hj, HJ => exact absurd hj (by omega)
    ·
      by_cases k2 : K = 2
      · subst k2
        clear HRD HCN HX0 HX4 HBN HS1 HB1 HB2 HRB HRR
        have HPT : Hid (Calls Try.prog 28 #[hv ob] wc fun e w'' => ∃ pb, e = .returned (.slice (some ⟨pb, 0, none⟩) 3 3) ∧ wc.heap.size ≤ pb ∧ Blk w'' pb 58 [mf 58 ob, mf 59 ob, mf 60 ob, mf 61 ob, mf 62 ob, mf 63 ob] ∧ Below wc.heap.size wc w'') := by
          obtain ⟨va, vc, h⟩ := HS0.out
          exact parts28_2 h.blk
        have HSE2 : Hid (stE l (t1, t2) = (tkM 63 (tkM 61 (tkM 59 (l0, k0, (⟨2, (t1, t2), (t1, t2), (0, 0), false, ⟨#[]⟩, none, 0, 0, []⟩ : OpT)))))) := HSE.out
        have HLE : Hid (((l0, k0, (⟨2, (t1, t2), (t1, t2), (0, 0), false, ⟨#[]⟩, none, 0, 0, []⟩ : OpT))).1.length ≤ 1000000 ∧ ((tkM 59 (l0, k0, (⟨2, (t1, t2), (t1, t2), (0, 0), false, ⟨#[]⟩, none, 0, 0, []⟩ : OpT)))).1.length ≤ 1000000 ∧ ((tkM 61 (tkM 59 (l0, k0, (⟨2, (t1, t2), (t1, t2), (0, 0), false, ⟨#[]⟩, none, 0, 0, []⟩ : OpT))))).1.length ≤ 1000000) := by
          have h0 : ((l0, k0, (⟨2, (t1, t2), (t1, t2), (0, 0), false, ⟨#[]⟩, none, 0, 0, []⟩ : OpT))).1.length ≤ 1000000 := HOL.out
          obtain ⟨va, vc, h⟩ := HS0.out
          have o0 : Oct (l0, k0, (⟨2, (t1, t2), (t1, t2), (0, 0), false, ⟨#[]⟩, none, 0, 0, []⟩ : OpT)).1 := h.rd.oct
          have o1 := tkM_oct 59 _ o0
          have l1 := tkM_len 59 _ o0
          have o2 := tkM_oct 61 _ o1
          have l2 := tkM_len 61 _ o1
          exact ⟨h0, by omega, by omega⟩
        clear HSE
        obtain ⟨S0, hS0⟩ : ∃ S0 : Rst, S0 = (l0, k0, (⟨2, (t1, t2), (t1, t2), (0, 0), false, ⟨#[]⟩, none, 0, 0, []⟩ : OpT)) := ⟨_, rfl⟩
        rw [← hS0] at HS0 HSE2 HLE
        clear hS0
        obtain ⟨S1, hS1⟩ : ∃ S1 : Rst, S1 = tkM 59 S0 := ⟨_, rfl⟩
        have HQ1 : Hid (S1 = tkM 59 S0) := hS1
        rw [← hS1] at HSE2
        rw [← hS1] at HLE
        clear hS1
        obtain ⟨S2, hS2⟩ : ∃ S2 : Rst, S2 = tkM 61 S1 := ⟨_, rfl⟩
        have HQ2 : Hid (S2 = tkM 61 S1) := hS2
        rw [← hS2] at HSE2
        rw [← hS2] at HLE
        clear hS2
        obtain ⟨S3, hS3⟩ : ∃ S3 : Rst, S3 = tkM 63 S2 := ⟨_, rfl⟩
        have HQ3 : Hid (S3 = tkM 63 S2) := hS3
        rw [← hS3] at HSE2
        clear hS3
        go_wp2_with (go_at_call 28; go_must (refine HPT.out.mono ?_; rintro r w4 ⟨pb, rfl, hpl, hpb, hb4⟩; have HS4 : Hid (RStX w4 rb ob S0) := HS0.out.below hb4; have HR4a : Hid (ResB w4 B4 oz) := HR0.out.below hb4; have HBW4 : Hid (Below w.heap.size w w4) := (show Below _ _ _ from HBW0.out.trans (hb4.mono HBW0.out.size)); have HP4 : Hid (Blk w4 pb 58 [mf 58 ob, mf 59 ob, mf 60 ob, mf 61 ob, mf 62 ob, mf 63 ob]) := hpb; have HPN : Hid (pb ≠ rb ∧ pb ≠ ob) := (show _ ∧ _ by (obtain ⟨va, vc, h⟩ := HS0.out; have h1 := h.rd.lt; have h2 := h.blk.lt; omega)); clear hb4 hpl hpb))
        go_loopw [21] (fun i wr => ∃ (j : Nat) (S : Rst), i = .int .i64 (j : Int) ∧ j ≤ 3 ∧ Hid ((j = 0 ∧ S = S0) ∨ (j = 1 ∧ S = S1) ∨ (j = 2 ∧ S = S2) ∨ (j = 3 ∧ S = S3)) ∧ Hid (RStX wr rb ob S) ∧ Hid (ResB wr B4 oz) ∧ Hid (Blk wr pb 58 [mf 58 ob, mf 59 ob, mf 60 ob, mf 61 ob, mf 62 ob, mf 63 ob]) ∧ Hid (Below w.heap.size w wr)) (fun i _ => 3 - (intOf i).toNat)
        case atStart => exact ⟨0, S0, rfl, by omega, .inl ⟨rfl, rfl⟩, HS4, HR4a, HP4, HBW4⟩
        case round =>
          obtain ⟨j, S, rfl, hj, HJ, HS, HR4, HP, HBW⟩ := hrel
          have hpl := HP.out.lt
          match j, hj, HJ with
          | 0, _, HJ =>
            have hSS : S0 = S := Eq.symm (by have h := HJ.out; simpa using h)
            subst hSS
            have f0 := HP.out.cell 0 _ rfl
            have f1 := HP.out.cell 1 _ rfl
            have HBa : Hid (Below wr.heap.size wr (wr.alloc (.cells #[mf 58 ob, mf 59 ob] 58))) := (show Below _ _ _ from balloc (Below.refl _ _) _)
            have HCa : Hid (Calls Try.prog 59 #[hv ob, ptr rb] (wr.alloc (.cells #[mf 58 ob, mf 59 ob] 58)) fun e w' => e = .returned (.tuple #[]) ∧ Turn [rb, ob] (wr.alloc (.cells #[mf 58 ob, mf 59 ob] 58)) w' ∧ RStX w' rb ob (tkM 59 S0)) := takeX59 (HS.out.below HBa.out) (Nat.le_trans HLE.out.1 (by omega))
            go_wp2_with (go_at_call 59; go_must (refine HCa.out.mono ?_; rintro r w6 ⟨rfl, ht6, hs6⟩; have HS6 : Hid (RStX w6 rb ob (tkM 59 S0)) := hs6; have HR6 : Hid (ResB w6 B4 oz) := ResB.turn (HR4.out.below HBa.out) ht6 HNB.out.2.2.2.1 HNB.out.2.2.2.2; have HP6 : Hid (Blk w6 pb 58 [mf 58 ob, mf 59 ob, mf 60 ob, mf 61 ob, mf 62 ob, mf 63 ob]) := Blk.turn2 (HP.out.below HBa.out) ht6 HPN.out.1 HPN.out.2; have HB6 : Hid (Below w.heap.size w w6) := (show Below _ _ _ from Below.turn2 (HBW.out.trans (HBa.out.mono HBW.out.size)) ht6 (Nat.le_trans HBW.out.size HBa.out.size) HNB.out.1 HNB.out.2.1); clear ht6 hs6))
            go_roundw
            case rel => exact ⟨1, tkM 59 S0, by go_num, by omega, (.inr (.inl ⟨rfl, (by first | rfl | exact HQ1.out.symm)⟩)), by first | exact HS6 | (rw [← HQ1.out]; exact HS6), HR6, HP6, HB6⟩
            case measure => simp [intOf] <;> omega
          | 1, _, HJ =>
            have hSS : S1 = S := Eq.symm (by have h := HJ.out; simpa using h)
            subst hSS
            have f0 := HP.out.cell 2 _ rfl
            have f1 := HP.out.cell 3 _ rfl
            have HBa : Hid (Below wr.heap.size wr (wr.alloc (.cells #[mf 60 ob, mf 61 ob] 58))) := (show Below _ _ _ from balloc (Below.refl _ _) _)
            have HCa : Hid (Calls Try.prog 61 #[hv ob, ptr rb] (wr.alloc (.cells #[mf 60 ob, mf 61 ob] 58)) fun e w' => e = .returned (.tuple #[]) ∧ Turn [rb, ob] (wr.alloc (.cells #[mf 60 ob, mf 61 ob] 58)) w' ∧ RStX w' rb ob (tkM 61 S1)) := takeX61 (HS.out.below HBa.out) (Nat.le_trans HLE.out.2.1 (by omega))
            go_wp2_with (go_at_call 61; go_must (refine HCa.out.mono ?_; rintro r w6 ⟨rfl, ht6, hs6⟩; have HS6 : Hid (RStX w6 rb ob (tkM 61 S1)) := hs6; have HR6 : Hid (ResB w6 B4 oz) := ResB.turn (HR4.out.below HBa.out) ht6 HNB.out.2.2.2.1 HNB.out.2.2.2.2; have HP6 : Hid (Blk w6 pb 58 [mf 58 ob, mf 59 ob, mf 60 ob, mf 61 ob, mf 62 ob, mf 63 ob]) := Blk.turn2 (HP.out.below HBa.out) ht6 HPN.out.1 HPN.out.2; have HB6 : Hid (Below w.heap.size w w6) := (show Below _ _ _ from Below.turn2 (HBW.out.trans (HBa.out.mono HBW.out.size)) ht6 (Nat.le_trans HBW.out.size HBa.out.size) HNB.out.1 HNB.out.2.1); clear ht6 hs6))
            go_roundw
            case rel => exact ⟨2, tkM 61 S1, by go_num, by omega, (.inr (.inr (.inl ⟨rfl, (by first | rfl | exact HQ2.out.symm)⟩))), by first | exact HS6 | (rw [← HQ2.out]; exact HS6), HR6, HP6, HB6⟩
            case measure => simp [intOf] <;> omega
          | 2, _, HJ =>
            have hSS : S2 = S := Eq.symm (by have h := HJ.out; simpa using h)
            subst hSS
            have f0 := HP.out.cell 4 _ rfl
            have f1 := HP.out.cell 5 _ rfl
            have HBa : Hid (Below wr.heap.size wr (wr.alloc (.cells #[mf 62 ob, mf 63 ob] 58))) := (show Below _ _ _ from balloc (Below.refl _ _) _)
            have HCa : Hid (Calls Try.prog 63 #[hv ob, ptr rb] (wr.alloc (.cells #[mf 62 ob, mf 63 ob] 58)) fun e w' => e = .returned (.tuple #[]) ∧ Turn [rb, ob] (wr.alloc (.cells #[mf 62 ob, mf 63 ob] 58)) w' ∧ RStX w' rb ob (tkM 63 S2)) := takeX63 (HS.out.below HBa.out) (Nat.le_trans HLE.out.2.2 (by omega))
            go_wp2_with (go_at_call 63; go_must (refine HCa.out.mono ?_; rintro r w6 ⟨rfl, ht6, hs6⟩; have HS6 : Hid (RStX w6 rb ob (tkM 63 S2)) := hs6; have HR6 : Hid (ResB w6 B4 oz) := ResB.turn (HR4.out.below HBa.out) ht6 HNB.out.2.2.2.1 HNB.out.2.2.2.2; have HP6 : Hid (Blk w6 pb 58 [mf 58 ob, mf 59 ob, mf 60 ob, mf 61 ob, mf 62 ob, mf 63 ob]) := Blk.turn2 (HP.out.below HBa.out) ht6 HPN.out.1 HPN.out.2; have HB6 : Hid (Below w.heap.size w w6) := (show Below _ _ _ from Below.turn2 (HBW.out.trans (HBa.out.mono HBW.out.size)) ht6 (Nat.le_trans HBW.out.size HBa.out.size) HNB.out.1 HNB.out.2.1); clear ht6 hs6))
            go_roundw
            case rel => exact ⟨3, tkM 63 S2, by go_num, by omega, (.inr (.inr (.inr ⟨rfl, (by first | rfl | exact HQ3.out.symm)⟩))), by first | exact HS6 | (rw [← HQ3.out]; exact HS6), HR6, HP6, HB6⟩
            case measure => simp [intOf] <;> omega
          | 3, _, HJ =>
            have hSS : S3 = S := Eq.symm (by have h := HJ.out; simpa using h)
            subst hSS
            have HSE : Hid (stE l (t1, t2) = S3) := (show _ = _ from HSE2.out)
            have HDN : Hid (Calls Try.prog 35 #[ptr rb] wr fun e w'' => e = .returned (.int .i64 (doneK (S3).1 (S3).2.1)) ∧ w'' = wr) := by
              obtain ⟨va, vc, h⟩ := HS.out
              exact done_any wr rb _ _ h.rd
            have HFIN : Hid ((doneK (S3).1 (S3).2.1 ≠ 0 → readM l (t1, t2) = (oz, doneK (S3).1 (S3).2.1)) ∧ (doneK (S3).1 (S3).2.1 = 0 → rightO (qv (S3).2.2 none 0) = true → readM l (t1, t2) = ((S3).2.2, 0)) ∧ (doneK (S3).1 (S3).2.1 = 0 → rightO (qv (S3).2.2 none 0) = false → readM l (t1, t2) = (oz, 4))) := by
              have e := HSE.out
              refine ⟨fun h => ?_, fun h h2 => ?_, fun h h2 => ?_⟩
              · unfold readM; rw [e, if_pos h]
              · unfold readM; rw [e, if_neg (by rw [h]; simp), if_pos h2]
              · unfold readM; rw [e, if_neg (by rw [h]; simp), if_neg (by rw [h2]; simp)]
            generalize hdk : doneK (S3).1 (S3).2.1 = D at HDN HFIN
            have HT4 : Hid (wr.there B4 0 10) := Blk.there HR4.out 0 10 (by first | (rw [oc_len]; done) | (rw [oc_len]; omega))
            obtain ⟨wz, hwz⟩ : ∃ wz, wz = wr.setCells B4 0 (oc oz) := ⟨_, rfl⟩
            have HWZ : Hid (wz = wr.setCells B4 0 (oc oz)) := hwz
            have HRZ : Hid (ResB wz B4 oz) := by show ResB _ _ _; rw [hwz]; exact HR4.out.put
            have HBZ : Hid (Below w.heap.size w wz) := by show Below _ _ _; rw [hwz]; exact bgrown HBW.out HNB.out.2.2.1 (grown_setCells _ _ _ _)
            clear hwz hdk HSE
            by_cases hD : D = 0
            · subst hD
              obtain ⟨qa, qc, hQ⟩ := HS.out
              have HQD : Hid (Rd wr (qv (S3).2.2 qa qc).v (S3).2.2.b) := hQ.dat
              have HRT : Hid (∀ w', Calls Try.prog 16 #[ov (qv (S3).2.2 qa qc)] w' fun e w'' => e = .returned (.bool (rightO (qv (S3).2.2 none 0))) ∧ Below w'.heap.size w' w'') := fun w' => by rw [← right_qv (S3).2.2 qa qc]; exact right16 _ w'
              have HLQ : Hid (wr.rangeAt ob 0 (oc (qv (S3).2.2 qa qc))) := hQ.blk.range0
              have HLB : Hid (∀ w', Below wr.heap.size wr w' → w'.rangeAt ob 0 (oc (qv (S3).2.2 qa qc))) := fun w' h => (hQ.blk.below h).range0
              clear hQ
              cases hR : rightO (qv (S3).2.2 none 0)
              · rw [hR] at HRT
                have HE : Hid (readM l (t1, t2) = (oz, 4)) := HFIN.out.2.2 rfl hR
                go_wp2_with (first
                  | (go_at_call 35; go_must (refine HDN.out.mono ?_; rintro r w7 ⟨rfl, hw7⟩; replace hw7 := hw7.symm; subst hw7))
                  | (refine wpList_ok rfl (exec_load26 (q := qv (S3).2.2 qa qc) (.tmp 7) rfl rfl HLQ.out) ?_)
                  | (go_at_call 16; go_must (refine (HRT.out _).mono ?_; rintro r w8 ⟨rfl, hb8⟩; have HB8 : Hid (Below wr.heap.size wr w8) := hb8; have HT8 : Hid (w8.there B4 0 10) := Blk.there (HR4.out.below hb8) 0 10 (by first | (rw [oc_len]; done) | (rw [oc_len]; omega)); obtain ⟨wy, hwy⟩ : ∃ wy, wy = w8.setCells B4 0 (oc oz) := ⟨_, rfl⟩; have HWY : Hid (wy = w8.setCells B4 0 (oc oz)) := hwy; have HRY : Hid (ResB wy B4 oz) := (HR4.out.below hb8).putAt hwy; have HBY : Hid (Below w.heap.size w wy) := Below.putAt (HBW.out.trans (hb8.mono HBW.out.size)) (Nat.le_refl _) HNB.out.2.2.1 hwy; clear hb8 hwy))
                  | (refine wpList_skip rfl (exec_store26 (q := oz) (.tmp 4) (.tmp 39) rfl rfl rfl HT8.out) ?_; rw [← HWY.out]))
                exact bodyPost_ret (v := .tuple #[ov oz, .int .i64 4]) (HRY.out.ret rfl rfl) rfl ⟨none, 0, by rw [HE.out]; rfl, by rw [HE.out]; exact rd_nil _, HBY.out⟩
              · rw [hR] at HRT
                have HE : Hid (readM l (t1, t2) = ((S3).2.2, 0)) := HFIN.out.2.1 rfl hR
                go_wp2_with (first
                  | (go_at_call 35; go_must (refine HDN.out.mono ?_; rintro r w7 ⟨rfl, hw7⟩; replace hw7 := hw7.symm; subst hw7))
                  | (refine wpList_ok rfl (exec_load26 (q := qv (S3).2.2 qa qc) (.tmp 7) rfl rfl HLQ.out) ?_)
                  | (go_at_call 16; go_must (refine (HRT.out _).mono ?_; rintro r w8 ⟨rfl, hb8⟩; have HB8 : Hid (Below wr.heap.size wr w8) := hb8; have HL8 : Hid (w8.rangeAt ob 0 (oc (qv (S3).2.2 qa qc))) := HLB.out w8 hb8; have HT8 : Hid (w8.there B4 0 10) := Blk.there (HR4.out.below hb8) 0 10 (by first | (rw [oc_len]; done) | (rw [oc_len]; omega)); obtain ⟨wy, hwy⟩ : ∃ wy, wy = w8.setCells B4 0 (oc (qv (S3).2.2 qa qc)) := ⟨_, rfl⟩; have HWY : Hid (wy = w8.setCells B4 0 (oc (qv (S3).2.2 qa qc))) := hwy; have HRY : Hid (ResB wy B4 (qv (S3).2.2 qa qc)) := (HR4.out.below hb8).putAt hwy; have HQY : Hid (Rd wy (qv (S3).2.2 qa qc).v (S3).2.2.b) := (HQD.out.below hb8).putAt (HR4.out.below hb8) hwy; have HBY : Hid (Below w.heap.size w wy) := Below.putAt (HBW.out.trans (hb8.mono HBW.out.size)) (Nat.le_refl _) HNB.out.2.2.1 hwy; clear hb8 hwy))
                  | (refine wpList_ok rfl (exec_load26 (q := qv (S3).2.2 qa qc) (.tmp 7) rfl rfl HL8.out) ?_)
                  | (refine wpList_skip rfl (exec_store26 (q := qv (S3).2.2 qa qc) (.tmp 4) (.tmp 40) rfl rfl rfl HT8.out) ?_; rw [← HWY.out]))
                exact bodyPost_ret (v := .tuple #[ov (qv (S3).2.2 qa qc), .int .i64 0]) (HRY.out.ret rfl rfl) rfl ⟨qa, qc, by rw [HE.out], by rw [HE.out]; exact HQY.out, HBY.out⟩
            · have hDb : (D != 0) = true := by simpa using hD
              have HE : Hid (readM l (t1, t2) = (oz, D)) := HFIN.out.1 hD
              go_wp2_with (first
                | (go_at_call 35; go_must (refine HDN.out.mono ?_; rintro r w7 ⟨rfl, hw7⟩; replace hw7 := hw7.symm; subst hw7))
                | (refine wpList_skip rfl (exec_store26 (q := oz) (.tmp 4) (.tmp 34) rfl rfl rfl HT4.out) ?_; rw [← HWZ.out]))
              exact bodyPost_ret (v := .tuple #[ov oz, .int .i64 D]) (HRZ.out.ret rfl rfl) rfl ⟨none, 0, by rw [HE.out]; rfl, by rw [HE.out]; exact rd_nil _, HBZ.out⟩
          | j + 4, hj, HJ => exact absurd hj (by omega)
      ·
        by_cases k3 : K = 3
        · subst k3
          clear HRD HCN HX0 HX4 HBN HS1 HB1 HB2 HRB HRR
          have HPT : Hid (Calls Try.prog 28 #[hv ob] wc fun e w'' => ∃ pb, e = .returned (.slice (some ⟨pb, 0, none⟩) 1 1) ∧ wc.heap.size ≤ pb ∧ Blk w'' pb 58 [mf 58 ob, mf 59 ob] ∧ Below wc.heap.size wc w'') := by
            obtain ⟨va, vc, h⟩ := HS0.out
            exact parts28_3 h.blk
          have HSE2 : Hid (stE l (t1, t2) = (tkM 59 (l0, k0, (⟨3, (t1, t2), (t1, t2), (0, 0), false, ⟨#[]⟩, none, 0, 0, []⟩ : OpT)))) := HSE.out
          have HLE : Hid (((l0, k0, (⟨3, (t1, t2), (t1, t2), (0, 0), false, ⟨#[]⟩, none, 0, 0, []⟩ : OpT))).1.length ≤ 1000000) := by
            have h0 : ((l0, k0, (⟨3, (t1, t2), (t1, t2), (0, 0), false, ⟨#[]⟩, none, 0, 0, []⟩ : OpT))).1.length ≤ 1000000 := HOL.out
            obtain ⟨va, vc, h⟩ := HS0.out
            have o0 : Oct (l0, k0, (⟨3, (t1, t2), (t1, t2), (0, 0), false, ⟨#[]⟩, none, 0, 0, []⟩ : OpT)).1 := h.rd.oct
            exact h0
          clear HSE
          obtain ⟨S0, hS0⟩ : ∃ S0 : Rst, S0 = (l0, k0, (⟨3, (t1, t2), (t1, t2), (0, 0), false, ⟨#[]⟩, none, 0, 0, []⟩ : OpT)) := ⟨_, rfl⟩
          rw [← hS0] at HS0 HSE2 HLE
          clear hS0
          obtain ⟨S1, hS1⟩ : ∃ S1 : Rst, S1 = tkM 59 S0 := ⟨_, rfl⟩
          have HQ1 : Hid (S1 = tkM 59 S0) := hS1
          rw [← hS1] at HSE2
          clear hS1
          go_wp2_with (go_at_call 28; go_must (refine HPT.out.mono ?_; rintro r w4 ⟨pb, rfl, hpl, hpb, hb4⟩; have HS4 : Hid (RStX w4 rb ob S0) := HS0.out.below hb4; have HR4a : Hid (ResB w4 B4 oz) := HR0.out.below hb4; have HBW4 : Hid (Below w.heap.size w w4) := (show Below _ _ _ from HBW0.out.trans (hb4.mono HBW0.out.size)); have HP4 : Hid (Blk w4 pb 58 [mf 58 ob, mf 59 ob]) := hpb; have HPN : Hid (pb ≠ rb ∧ pb ≠ ob) := (show _ ∧ _ by (obtain ⟨va, vc, h⟩ := HS0.out; have h1 := h.rd.lt; have h2 := h.blk.lt; omega)); clear hb4 hpl hpb))
          go_loopw [21] (fun i wr => ∃ (j : Nat) (S : Rst), i = .int .i64 (j : Int) ∧ j ≤ 1 ∧ Hid ((j = 0 ∧ S = S0) ∨ (j = 1 ∧ S = S1)) ∧ Hid (RStX wr rb ob S) ∧ Hid (ResB wr B4 oz) ∧ Hid (Blk wr pb 58 [mf 58 ob, mf 59 ob]) ∧ Hid (Below w.heap.size w wr)) (fun i _ => 1 - (intOf i).toNat)
          case atStart => exact ⟨0, S0, rfl, by omega, .inl ⟨rfl, rfl⟩, HS4, HR4a, HP4, HBW4⟩
          case round =>
            obtain ⟨j, S, rfl, hj, HJ, HS, HR4, HP, HBW⟩ := hrel
            have hpl := HP.out.lt
            match j, hj, HJ with
            | 0, _, HJ =>
              have hSS : S0 = S := Eq.symm (by have h := HJ.out; simpa using h)
              subst hSS
              have f0 := HP.out.cell 0 _ rfl
              have f1 := HP.out.cell 1 _ rfl
              have HBa : Hid (Below wr.heap.size wr (wr.alloc (.cells #[mf 58 ob, mf 59 ob] 58))) := (show Below _ _ _ from balloc (Below.refl _ _) _)
              have HCa : Hid (Calls Try.prog 59 #[hv ob, ptr rb] (wr.alloc (.cells #[mf 58 ob, mf 59 ob] 58)) fun e w' => e = .returned (.tuple #[]) ∧ Turn [rb, ob] (wr.alloc (.cells #[mf 58 ob, mf 59 ob] 58)) w' ∧ RStX w' rb ob (tkM 59 S0)) := takeX59 (HS.out.below HBa.out) (Nat.le_trans HLE.out (by omega))
              go_wp2_with (go_at_call 59; go_must (refine HCa.out.mono ?_; rintro r w6 ⟨rfl, ht6, hs6⟩; have HS6 : Hid (RStX w6 rb ob (tkM 59 S0)) := hs6; have HR6 : Hid (ResB w6 B4 oz) := ResB.turn (HR4.out.below HBa.out) ht6 HNB.out.2.2.2.1 HNB.out.2.2.2.2; have HP6 : Hid (Blk w6 pb 58 [mf 58 ob, mf 59 ob]) := Blk.turn2 (HP.out.below HBa.out) ht6 HPN.out.1 HPN.out.2; have HB6 : Hid (Below w.heap.size w w6) := (show Below _ _ _ from Below.turn2 (HBW.out.trans (HBa.out.mono HBW.out.size)) ht6 (Nat.le_trans HBW.out.size HBa.out.size) HNB.out.1 HNB.out.2.1); clear ht6 hs6))
              go_roundw
              case rel => exact ⟨1, tkM 59 S0, by go_num, by omega, (.inr ⟨rfl, (by first | rfl | exact HQ1.out.symm)⟩), by first | exact HS6 | (rw [← HQ1.out]; exact HS6), HR6, HP6, HB6⟩
              case measure => simp [intOf] <;> omega
            | 1, _, HJ =>
              have hSS : S1 = S := Eq.symm (by have h := HJ.out; simpa using h)
              subst hSS
              have HSE : Hid (stE l (t1, t2) = S1) := (show _ = _ from HSE2.out)
              have HDN : Hid (Calls Try.prog 35 #[ptr rb] wr fun e w'' => e = .returned (.int .i64 (doneK (S1).1 (S1).2.1)) ∧ w'' = wr) := by
                obtain ⟨va, vc, h⟩ := HS.out
                exact done_any wr rb _ _ h.rd
              have HFIN : Hid ((doneK (S1).1 (S1).2.1 ≠ 0 → readM l (t1, t2) = (oz, doneK (S1).1 (S1).2.1)) ∧ (doneK (S1).1 (S1).2.1 = 0 → rightO (qv (S1).2.2 none 0) = true → readM l (t1, t2) = ((S1).2.2, 0)) ∧ (doneK (S1).1 (S1).2.1 = 0 → rightO (qv (S1).2.2 none 0) = false → readM l (t1, t2) = (oz, 4))) := by
                have e := HSE.out
                refine ⟨fun h => ?_, fun h h2 => ?_, fun h h2 => ?_⟩
                · unfold readM; rw [e, if_pos h]
                · unfold readM; rw [e, if_neg (by rw [h]; simp), if_pos h2]
                · unfold readM; rw [e, if_neg (by rw [h]; simp), if_neg (by rw [h2]; simp)]
              generalize hdk : doneK (S1).1 (S1).2.1 = D at HDN HFIN
              have HT4 : Hid (wr.there B4 0 10) := Blk.there HR4.out 0 10 (by first | (rw [oc_len]; done) | (rw [oc_len]; omega))
              obtain ⟨wz, hwz⟩ : ∃ wz, wz = wr.setCells B4 0 (oc oz) := ⟨_, rfl⟩
              have HWZ : Hid (wz = wr.setCells B4 0 (oc oz)) := hwz
              have HRZ : Hid (ResB wz B4 oz) := by show ResB _ _ _; rw [hwz]; exact HR4.out.put
              have HBZ : Hid (Below w.heap.size w wz) := by show Below _ _ _; rw [hwz]; exact bgrown HBW.out HNB.out.2.2.1 (grown_setCells _ _ _ _)
              clear hwz hdk HSE
              by_cases hD : D = 0
              · subst hD
                obtain ⟨qa, qc, hQ⟩ := HS.out
                have HQD : Hid (Rd wr (qv (S1).2.2 qa qc).v (S1).2.2.b) := hQ.dat
                have HRT : Hid (∀ w', Calls Try.prog 16 #[ov (qv (S1).2.2 qa qc)] w' fun e w'' => e = .returned (.bool (rightO (qv (S1).2.2 none 0))) ∧ Below w'.heap.size w' w'') := fun w' => by rw [← right_qv (S1).2.2 qa qc]; exact right16 _ w'
                have HLQ : Hid (wr.rangeAt ob 0 (oc (qv (S1).2.2 qa qc))) := hQ.blk.range0
                have HLB : Hid (∀ w', Below wr.heap.size wr w' → w'.rangeAt ob 0 (oc (qv (S1).2.2 qa qc))) := fun w' h => (hQ.blk.below h).range0
                clear hQ
                cases hR : rightO (qv (S1).2.2 none 0)
                · rw [hR] at HRT
                  have HE : Hid (readM l (t1, t2) = (oz, 4)) := HFIN.out.2.2 rfl hR
                  go_wp2_with (first
                    | (go_at_call 35; go_must (refine HDN.out.mono ?_; rintro r w7 ⟨rfl, hw7⟩; replace hw7 := hw7.symm; subst hw7))
                    | (refine wpList_ok rfl (exec_load26 (q := qv (S1).2.2 qa qc) (.tmp 7) rfl rfl HLQ.out) ?_)
                    | (go_at_call 16; go_must (refine (HRT.out _).mono ?_; rintro r w8 ⟨rfl, hb8⟩; have HB8 : Hid (Below wr.heap.size wr w8) := hb8; have HT8 : Hid (w8.there B4 0 10) := Blk.there (HR4.out.below hb8) 0 10 (by first | (rw [oc_len]; done) | (rw [oc_len]; omega)); obtain ⟨wy, hwy⟩ : ∃ wy, wy = w8.setCells B4 0 (oc oz) := ⟨_, rfl⟩; have HWY : Hid (wy = w8.setCells B4 0 (oc oz)) := hwy; have HRY : Hid (ResB wy B4 oz) := (HR4.out.below hb8).putAt hwy; have HBY : Hid (Below w.heap.size w wy) := Below.putAt (HBW.out.trans (hb8.mono HBW.out.size)) (Nat.le_refl _) HNB.out.2.2.1 hwy; clear hb8 hwy))
                    | (refine wpList_skip rfl (exec_store26 (q := oz) (.tmp 4) (.tmp 39) rfl rfl rfl HT8.out) ?_; rw [← HWY.out]))
                  exact bodyPost_ret (v := .tuple #[ov oz, .int .i64 4]) (HRY.out.ret rfl rfl) rfl ⟨none, 0, by rw [HE.out]; rfl, by rw [HE.out]; exact rd_nil _, HBY.out⟩
                · rw [hR] at HRT
                  have HE : Hid (readM l (t1, t2) = ((S1).2.2, 0)) := HFIN.out.2.1 rfl hR
                  go_wp2_with (first
                    | (go_at_call 35; go_must (refine HDN.out.mono ?_; rintro r w7 ⟨rfl, hw7⟩; replace hw7 := hw7.symm; subst hw7))
                    | (refine wpList_ok rfl (exec_load26 (q := qv (S1).2.2 qa qc) (.tmp 7) rfl rfl HLQ.out) ?_)
                    | (go_at_call 16; go_must (refine (HRT.out _).mono ?_; rintro r w8 ⟨rfl, hb8⟩; have HB8 : Hid (Below wr.heap.size wr w8) := hb8; have HL8 : Hid (w8.rangeAt ob 0 (oc (qv (S1).2.2 qa qc))) := HLB.out w8 hb8; have HT8 : Hid (w8.there B4 0 10) := Blk.there (HR4.out.below hb8) 0 10 (by first | (rw [oc_len]; done) | (rw [oc_len]; omega)); obtain ⟨wy, hwy⟩ : ∃ wy, wy = w8.setCells B4 0 (oc (qv (S1).2.2 qa qc)) := ⟨_, rfl⟩; have HWY : Hid (wy = w8.setCells B4 0 (oc (qv (S1).2.2 qa qc))) := hwy; have HRY : Hid (ResB wy B4 (qv (S1).2.2 qa qc)) := (HR4.out.below hb8).putAt hwy; have HQY : Hid (Rd wy (qv (S1).2.2 qa qc).v (S1).2.2.b) := (HQD.out.below hb8).putAt (HR4.out.below hb8) hwy; have HBY : Hid (Below w.heap.size w wy) := Below.putAt (HBW.out.trans (hb8.mono HBW.out.size)) (Nat.le_refl _) HNB.out.2.2.1 hwy; clear hb8 hwy))
                    | (refine wpList_ok rfl (exec_load26 (q := qv (S1).2.2 qa qc) (.tmp 7) rfl rfl HL8.out) ?_)
                    | (refine wpList_skip rfl (exec_store26 (q := qv (S1).2.2 qa qc) (.tmp 4) (.tmp 40) rfl rfl rfl HT8.out) ?_; rw [← HWY.out]))
                  exact bodyPost_ret (v := .tuple #[ov (qv (S1).2.2 qa qc), .int .i64 0]) (HRY.out.ret rfl rfl) rfl ⟨qa, qc, by rw [HE.out], by rw [HE.out]; exact HQY.out, HBY.out⟩
              · have hDb : (D != 0) = true := by simpa using hD
                have HE : Hid (readM l (t1, t2) = (oz, D)) := HFIN.out.1 hD
                go_wp2_with (first
                  | (go_at_call 35; go_must (refine HDN.out.mono ?_; rintro r w7 ⟨rfl, hw7⟩; replace hw7 := hw7.symm; subst hw7))
                  | (refine wpList_skip rfl (exec_store26 (q := oz) (.tmp 4) (.tmp 34) rfl rfl rfl HT4.out) ?_; rw [← HWZ.out]))
                exact bodyPost_ret (v := .tuple #[ov oz, .int .i64 D]) (HRZ.out.ret rfl rfl) rfl ⟨none, 0, by rw [HE.out]; rfl, by rw [HE.out]; exact rd_nil _, HBZ.out⟩
            | j + 2, hj, HJ => exact absurd hj (by omega)
        ·
          by_cases k4 : K = 4
          · subst k4
            clear HRD HCN HX0 HX4 HBN HS1 HB1 HB2 HRB HRR
            have HPT : Hid (Calls Try.prog 28 #[hv ob] wc fun e w'' => ∃ pb, e = .returned (.slice (some ⟨pb, 0, none⟩) 2 2) ∧ wc.heap.size ≤ pb ∧ Blk w'' pb 58 [mf 58 ob, mf 59 ob, mf 66 ob, mf 67 ob] ∧ Below wc.heap.size wc w'') := by
              obtain ⟨va, vc, h⟩ := HS0.out
              exact parts28_4 h.blk
            have HSE2 : Hid (stE l (t1, t2) = (tkM 67 (tkM 59 (l0, k0, (⟨4, (t1, t2), (t1, t2), (0, 0), false, ⟨#[]⟩, none, 0, 0, []⟩ : OpT))))) := HSE.out
            have HLE : Hid (((l0, k0, (⟨4, (t1, t2), (t1, t2), (0, 0), false, ⟨#[]⟩, none, 0, 0, []⟩ : OpT))).1.length ≤ 1000000 ∧ ((tkM 59 (l0, k0, (⟨4, (t1, t2), (t1, t2), (0, 0), false, ⟨#[]⟩, none, 0, 0, []⟩ : OpT)))).1.length ≤ 1000000) := by
              have h0 : ((l0, k0, (⟨4, (t1, t2), (t1, t2), (0, 0), false, ⟨#[]⟩, none, 0, 0, []⟩ : OpT))).1.length ≤ 1000000 := HOL.out
              obtain ⟨va, vc, h⟩ := HS0.out
              have o0 : Oct (l0, k0, (⟨4, (t1, t2), (t1, t2), (0, 0), false, ⟨#[]⟩, none, 0, 0, []⟩ : OpT)).1 := h.rd.oct
              have o1 := tkM_oct 59 _ o0
              have l1 := tkM_len 59 _ o0
              exact ⟨h0, by omega⟩
            clear HSE
            obtain ⟨S0, hS0⟩ : ∃ S0 : Rst, S0 = (l0, k0, (⟨4, (t1, t2), (t1, t2), (0, 0), false, ⟨#[]⟩, none, 0, 0, []⟩ : OpT)) := ⟨_, rfl⟩
            rw [← hS0] at HS0 HSE2 HLE
            clear hS0
            obtain ⟨S1, hS1⟩ : ∃ S1 : Rst, S1 = tkM 59 S0 := ⟨_, rfl⟩
            have HQ1 : Hid (S1 = tkM 59 S0) := hS1
            rw [← hS1] at HSE2
            rw [← hS1] at HLE
            clear hS1
            obtain ⟨S2, hS2⟩ : ∃ S2 : Rst, S2 = tkM 67 S1 := ⟨_, rfl⟩
            have HQ2 : Hid (S2 = tkM 67 S1) := hS2
            rw [← hS2] at HSE2
            clear hS2
            go_wp2_with (go_at_call 28; go_must (refine HPT.out.mono ?_; rintro r w4 ⟨pb, rfl, hpl, hpb, hb4⟩; have HS4 : Hid (RStX w4 rb ob S0) := HS0.out.below hb4; have HR4a : Hid (ResB w4 B4 oz) := HR0.out.below hb4; have HBW4 : Hid (Below w.heap.size w w4) := (show Below _ _ _ from HBW0.out.trans (hb4.mono HBW0.out.size)); have HP4 : Hid (Blk w4 pb 58 [mf 58 ob, mf 59 ob, mf 66 ob, mf 67 ob]) := hpb; have HPN : Hid (pb ≠ rb ∧ pb ≠ ob) := (show _ ∧ _ by (obtain ⟨va, vc, h⟩ := HS0.out; have h1 := h.rd.lt; have h2 := h.blk.lt; omega)); clear hb4 hpl hpb))
            go_loopw [21] (fun i wr => ∃ (j : Nat) (S : Rst), i = .int .i64 (j : Int) ∧ j ≤ 2 ∧ Hid ((j = 0 ∧ S = S0) ∨ (j = 1 ∧ S = S1) ∨ (j = 2 ∧ S = S2)) ∧ Hid (RStX wr rb ob S) ∧ Hid (ResB wr B4 oz) ∧ Hid (Blk wr pb 58 [mf 58 ob, mf 59 ob, mf 66 ob, mf 67 ob]) ∧ Hid (Below w.heap.size w wr)) (fun i _ => 2 - (intOf i).toNat)
            case atStart => exact ⟨0, S0, rfl, by omega, .inl ⟨rfl, rfl⟩, HS4, HR4a, HP4, HBW4⟩
            case round =>
              obtain ⟨j, S, rfl, hj, HJ, HS, HR4, HP, HBW⟩ := hrel
              have hpl := HP.out.lt
              match j, hj, HJ with
              | 0, _, HJ =>
                have hSS : S0 = S := Eq.symm (by have h := HJ.out; simpa using h)
                subst hSS
                have f0 := HP.out.cell 0 _ rfl
                have f1 := HP.out.cell 1 _ rfl
                have HBa : Hid (Below wr.heap.size wr (wr.alloc (.cells #[mf 58 ob, mf 59 ob] 58))) := (show Below _ _ _ from balloc (Below.refl _ _) _)
                have HCa : Hid (Calls Try.prog 59 #[hv ob, ptr rb] (wr.alloc (.cells #[mf 58 ob, mf 59 ob] 58)) fun e w' => e = .returned (.tuple #[]) ∧ Turn [rb, ob] (wr.alloc (.cells #[mf 58 ob, mf 59 ob] 58)) w' ∧ RStX w' rb ob (tkM 59 S0)) := takeX59 (HS.out.below HBa.out) (Nat.le_trans HLE.out.1 (by omega))
                go_wp2_with (go_at_call 59; go_must (refine HCa.out.mono ?_; rintro r w6 ⟨rfl, ht6, hs6⟩; have HS6 : Hid (RStX w6 rb ob (tkM 59 S0)) := hs6; have HR6 : Hid (ResB w6 B4 oz) := ResB.turn (HR4.out.below HBa.out) ht6 HNB.out.2.2.2.1 HNB.out.2.2.2.2; have HP6 : Hid (Blk w6 pb 58 [mf 58 ob, mf 59 ob, mf 66 ob, mf 67 ob]) := Blk.turn2 (HP.out.below HBa.out) ht6 HPN.out.1 HPN.out.2; have HB6 : Hid (Below w.heap.size w w6) := (show Below _ _ _ from Below.turn2 (HBW.out.trans (HBa.out.mono HBW.out.size)) ht6 (Nat.le_trans HBW.out.size HBa.out.size) HNB.out.1 HNB.out.2.1); clear ht6 hs6))
                go_roundw
                case rel => exact ⟨1, tkM 59 S0, by go_num, by omega, (.inr (.inl ⟨rfl, (by first | rfl | exact HQ1.out.symm)⟩)), by first | exact HS6 | (rw [← HQ1.out]; exact HS6), HR6, HP6, HB6⟩
                case measure => simp [intOf] <;> omega
              | 1, _, HJ =>
                have hSS : S1 = S := Eq.symm (by have h := HJ.out; simpa using h)
                subst hSS
                have f0 := HP.out.cell 2 _ rfl
                have f1 := HP.out.cell 3 _ rfl
                have HBa : Hid (Below wr.heap.size wr (wr.alloc (.cells #[mf 66 ob, mf 67 ob] 58))) := (show Below _ _ _ from balloc (Below.refl _ _) _)
                have HCa : Hid (Calls Try.prog 67 #[hv ob, ptr rb] (wr.alloc (.cells #[mf 66 ob, mf 67 ob] 58)) fun e w' => e = .returned (.tuple #[]) ∧ Turn [rb, ob] (wr.alloc (.cells #[mf 66 ob, mf 67 ob] 58)) w' ∧ RStX w' rb ob (tkM 67 S1)) := takeX67 (HS.out.below HBa.out) (Nat.le_trans HLE.out.2 (by omega))
                go_wp2_with (go_at_call 67; go_must (refine HCa.out.mono ?_; rintro r w6 ⟨rfl, ht6, hs6⟩; have HS6 : Hid (RStX w6 rb ob (tkM 67 S1)) := hs6; have HR6 : Hid (ResB w6 B4 oz) := ResB.turn (HR4.out.below HBa.out) ht6 HNB.out.2.2.2.1 HNB.out.2.2.2.2; have HP6 : Hid (Blk w6 pb 58 [mf 58 ob, mf 59 ob, mf 66 ob, mf 67 ob]) := Blk.turn2 (HP.out.below HBa.out) ht6 HPN.out.1 HPN.out.2; have HB6 : Hid (Below w.heap.size w w6) := (show Below _ _ _ from Below.turn2 (HBW.out.trans (HBa.out.mono HBW.out.size)) ht6 (Nat.le_trans HBW.out.size HBa.out.size) HNB.out.1 HNB.out.2.1); clear ht6 hs6))
                go_roundw
                case rel => exact ⟨2, tkM 67 S1, by go_num, by omega, (.inr (.inr ⟨rfl, (by first | rfl | exact HQ2.out.symm)⟩)), by first | exact HS6 | (rw [← HQ2.out]; exact HS6), HR6, HP6, HB6⟩
                case measure => simp [intOf] <;> omega
              | 2, _, HJ =>
                have hSS : S2 = S := Eq.symm (by have h := HJ.out; simpa using h)
                subst hSS
                have HSE : Hid (stE l (t1, t2) = S2) := (show _ = _ from HSE2.out)
                have HDN : Hid (Calls Try.prog 35 #[ptr rb] wr fun e w'' => e = .returned (.int .i64 (doneK (S2).1 (S2).2.1)) ∧ w'' = wr) := by
                  obtain ⟨va, vc, h⟩ := HS.out
                  exact done_any wr rb _ _ h.rd
                have HFIN : Hid ((doneK (S2).1 (S2).2.1 ≠ 0 → readM l (t1, t2) = (oz, doneK (S2).1 (S2).2.1)) ∧ (doneK (S2).1 (S2).2.1 = 0 → rightO (qv (S2).2.2 none 0) = true → readM l (t1, t2) = ((S2).2.2, 0)) ∧ (doneK (S2).1 (S2).2.1 = 0 → rightO (qv (S2).2.2 none 0) = false → readM l (t1, t2) = (oz, 4))) := by
                  have e := HSE.out
                  refine ⟨fun h => ?_, fun h h2 => ?_, fun h h2 => ?_⟩
                  · unfold readM; rw [e, if_pos h]
                  · unfold readM; rw [e, if_neg (by rw [h]; simp), if_pos h2]
                  · unfold readM; rw [e, if_neg (by rw [h]; simp), if_neg (by rw [h2]; simp)]
                generalize hdk : doneK (S2).1 (S2).2.1 = D at HDN HFIN
                have HT4 : Hid (wr.there B4 0 10) := Blk.there HR4.out 0 10 (by first | (rw [oc_len]; done) | (rw [oc_len]; omega))
                obtain ⟨wz, hwz⟩ : ∃ wz, wz = wr.setCells B4 0 (oc oz) := ⟨_, rfl⟩
                have HWZ : Hid (wz = wr.setCells B4 0 (oc oz)) := hwz
                have HRZ : Hid (ResB wz B4 oz) := by show ResB _ _ _; rw [hwz]; exact HR4.out.put
                have HBZ : Hid (Below w.heap.size w wz) := by show Below _ _ _; rw [hwz]; exact bgrown HBW.out HNB.out.2.2.1 (grown_setCells _ _ _ _)
                clear hwz hdk HSE
                by_cases hD : D = 0
                · subst hD
                  obtain ⟨qa, qc, hQ⟩ := HS.out
                  have HQD : Hid (Rd wr (qv (S2).2.2 qa qc).v (S2).2.2.b) := hQ.dat
                  have HRT : Hid (∀ w', Calls Try.prog 16 #[ov (qv (S2).2.2 qa qc)] w' fun e w'' => e = .returned (.bool (rightO (qv (S2).2.2 none 0))) ∧ Below w'.heap.size w' w'') := fun w' => by rw [← right_qv (S2).2.2 qa qc]; exact right16 _ w'
                  have HLQ : Hid (wr.rangeAt ob 0 (oc (qv (S2).2.2 qa qc))) := hQ.blk.range0
                  have HLB : Hid (∀ w', Below wr.heap.size wr w' → w'.rangeAt ob 0 (oc (qv (S2).2.2 qa qc))) := fun w' h => (hQ.blk.below h).range0
                  clear hQ
                  cases hR : rightO (qv (S2).2.2 none 0)
                  · rw [hR] at HRT
                    have HE : Hid (readM l (t1, t2) = (oz, 4)) := HFIN.out.2.2 rfl hR
                    go_wp2_with (first
                      | (go_at_call 35; go_must (refine HDN.out.mono ?_; rintro r w7 ⟨rfl, hw7⟩; replace hw7 := hw7.symm; subst hw7))
                      | (refine wpList_ok rfl (exec_load26 (q := qv (S2).2.2 qa qc) (.tmp 7) rfl rfl HLQ.out) ?_)
                      | (go_at_call 16; go_must (refine (HRT.out _).mono ?_; rintro r w8 ⟨rfl, hb8⟩; have HB8 : Hid (Below wr.heap.size wr w8) := hb8; have HT8 : Hid (w8.there B4 0 10) := Blk.there (HR4.out.below hb8) 0 10 (by first | (rw [oc_len]; done) | (rw [oc_len]; omega)); obtain ⟨wy, hwy⟩ : ∃ wy, wy = w8.setCells B4 0 (oc oz) := ⟨_, rfl⟩; have HWY : Hid (wy = w8.setCells B4 0 (oc oz)) := hwy; have HRY : Hid (ResB wy B4 oz) := (HR4.out.below hb8).putAt hwy; have HBY : Hid (Below w.heap.size w wy) := Below.putAt (HBW.out.trans (hb8.mono HBW.out.size)) (Nat.le_refl _) HNB.out.2.2.1 hwy; clear hb8 hwy))
                      | (refine wpList_skip rfl (exec_store26 (q := oz) (.tmp 4) (.tmp 39) rfl rfl rfl HT8.out) ?_; rw [← HWY.out]))
                    exact bodyPost_ret (v := .tuple #[ov oz, .int .i64 4]) (HRY.out.ret rfl rfl) rfl ⟨none, 0, by rw [HE.out]; rfl, by rw [HE.out]; exact rd_nil _, HBY.out⟩
                  · rw [hR] at HRT
                    have HE : Hid (readM l (t1, t2) = ((S2).2.2, 0)) := HFIN.out.2.1 rfl hR
                    go_wp2_with (first
                      | (go_at_call 35; go_must (refine HDN.out.mono ?_; rintro r w7 ⟨rfl, hw7⟩; replace hw7 := hw7.symm; subst hw7))
                      | (refine wpList_ok rfl (exec_load26 (q := qv (S2).2.2 qa qc) (.tmp 7) rfl rfl HLQ.out) ?_)
                      | (go_at_call 16; go_must (refine (HRT.out _).mono ?_; rintro r w8 ⟨rfl, hb8⟩; have HB8 : Hid (Below wr.heap.size wr w8) := hb8; have HL8 : Hid (w8.rangeAt ob 0 (oc (qv (S2).2.2 qa qc))) := HLB.out w8 hb8; have HT8 : Hid (w8.there B4 0 10) := Blk.there (HR4.out.below hb8) 0 10 (by first | (rw [oc_len]; done) | (rw [oc_len]; omega)); obtain ⟨wy, hwy⟩ : ∃ wy, wy = w8.setCells B4 0 (oc (qv (S2).2.2 qa qc)) := ⟨_, rfl⟩; have HWY : Hid (wy = w8.setCells B4 0 (oc (qv (S2).2.2 qa qc))) := hwy; have HRY : Hid (ResB wy B4 (qv (S2).2.2 qa qc)) := (HR4.out.below hb8).putAt hwy; have HQY : Hid (Rd wy (qv (S2).2.2 qa qc).v (S2).2.2.b) := (HQD.out.below hb8).putAt (HR4.out.below hb8) hwy; have HBY : Hid (Below w.heap.size w wy) := Below.putAt (HBW.out.trans (hb8.mono HBW.out.size)) (Nat.le_refl _) HNB.out.2.2.1 hwy; clear hb8 hwy))
                      | (refine wpList_ok rfl (exec_load26 (q := qv (S2).2.2 qa qc) (.tmp 7) rfl rfl HL8.out) ?_)
                      | (refine wpList_skip rfl (exec_store26 (q := qv (S2).2.2 qa qc) (.tmp 4) (.tmp 40) rfl rfl rfl HT8.out) ?_; rw [← HWY.out]))
                    exact bodyPost_ret (v := .tuple #[ov (qv (S2).2.2 qa qc), .int .i64 0]) (HRY.out.ret rfl rfl) rfl ⟨qa, qc, by rw [HE.out], by rw [HE.out]; exact HQY.out, HBY.out⟩
                · have hDb : (D != 0) = true := by simpa using hD
                  have HE : Hid (readM l (t1, t2) = (oz, D)) := HFIN.out.1 hD
                  go_wp2_with (first
                    | (go_at_call 35; go_must (refine HDN.out.mono ?_; rintro r w7 ⟨rfl, hw7⟩; replace hw7 := hw7.symm; subst hw7))
                    | (refine wpList_skip rfl (exec_store26 (q := oz) (.tmp 4) (.tmp 34) rfl rfl rfl HT4.out) ?_; rw [← HWZ.out]))
                  exact bodyPost_ret (v := .tuple #[ov oz, .int .i64 D]) (HRZ.out.ret rfl rfl) rfl ⟨none, 0, by rw [HE.out]; rfl, by rw [HE.out]; exact rd_nil _, HBZ.out⟩
              | j + 3, hj, HJ => exact absurd hj (by omega)
          ·
            clear HRD HCN HX0 HX4 HBN HS1 HB1 HB2 HRB HRR
            have HPT : Hid (Calls Try.prog 28 #[hv ob] wc fun e w'' => e = .returned (.slice none 0 0) ∧ Below wc.heap.size wc w'') := by
              obtain ⟨va, vc, h⟩ := HS0.out
              exact parts28_0 h.blk k1 k2 k3 k4
            have HSE2 : Hid (stE l (t1, t2) = (l0, k0, (⟨K, (t1, t2), (t1, t2), (0, 0), false, ⟨#[]⟩, none, 0, 0, []⟩ : OpT))) := by
              show _ = _
              rw [HSE.out]
              unfold takesF
              rw [if_neg k1, if_neg k2, if_neg k3, if_neg k4]
              rfl
            clear HSE k1 k2 k3 k4
            obtain ⟨S0, hS0⟩ : ∃ S0 : Rst, S0 = (l0, k0, (⟨K, (t1, t2), (t1, t2), (0, 0), false, ⟨#[]⟩, none, 0, 0, []⟩ : OpT)) := ⟨_, rfl⟩
            rw [← hS0] at HS0 HSE2
            clear hS0
            go_wp2_with (go_at_call 28; go_must (refine HPT.out.mono ?_; rintro r w4 ⟨rfl, hb4⟩; have HS4 : Hid (RStX w4 rb ob S0) := HS0.out.below hb4; have HR4a : Hid (ResB w4 B4 oz) := HR0.out.below hb4; have HBW4 : Hid (Below w.heap.size w w4) := (show Below _ _ _ from HBW0.out.trans (hb4.mono HBW0.out.size)); clear hb4))
            go_loopw [21] (fun i wr => i = .int .i64 0 ∧ Hid (RStX wr rb ob S0) ∧ Hid (ResB wr B4 oz) ∧ Hid (Below w.heap.size w wr)) (fun i _ => 0)
            case atStart => exact ⟨rfl, HS4, HR4a, HBW4⟩
            case round =>
              obtain ⟨rfl, HS, HR4, HBW⟩ := hrel
              have HSE : Hid (stE l (t1, t2) = S0) := HSE2
              have HDN : Hid (Calls Try.prog 35 #[ptr rb] wr fun e w'' => e = .returned (.int .i64 (doneK (S0).1 (S0).2.1)) ∧ w'' = wr) := by
                obtain ⟨va, vc, h⟩ := HS.out
                exact done_any wr rb _ _ h.rd
              have HFIN : Hid ((doneK (S0).1 (S0).2.1 ≠ 0 → readM l (t1, t2) = (oz, doneK (S0).1 (S0).2.1)) ∧ (doneK (S0).1 (S0).2.1 = 0 → rightO (qv (S0).2.2 none 0) = true → readM l (t1, t2) = ((S0).2.2, 0)) ∧ (doneK (S0).1 (S0).2.1 = 0 → rightO (qv (S0).2.2 none 0) = false → readM l (t1, t2) = (oz, 4))) := by
                have e := HSE.out
                refine ⟨fun h => ?_, fun h h2 => ?_, fun h h2 => ?_⟩
                · unfold readM; rw [e, if_pos h]
                · unfold readM; rw [e, if_neg (by rw [h]; simp), if_pos h2]
                · unfold readM; rw [e, if_neg (by rw [h]; simp), if_neg (by rw [h2]; simp)]
              generalize hdk : doneK (S0).1 (S0).2.1 = D at HDN HFIN
              have HT4 : Hid (wr.there B4 0 10) := Blk.there HR4.out 0 10 (by first | (rw [oc_len]; done) | (rw [oc_len]; omega))
              obtain ⟨wz, hwz⟩ : ∃ wz, wz = wr.setCells B4 0 (oc oz) := ⟨_, rfl⟩
              have HWZ : Hid (wz = wr.setCells B4 0 (oc oz)) := hwz
              have HRZ : Hid (ResB wz B4 oz) := by show ResB _ _ _; rw [hwz]; exact HR4.out.put
              have HBZ : Hid (Below w.heap.size w wz) := by show Below _ _ _; rw [hwz]; exact bgrown HBW.out HNB.out.2.2.1 (grown_setCells _ _ _ _)
              clear hwz hdk HSE
              by_cases hD : D = 0
              · subst hD
                obtain ⟨qa, qc, hQ⟩ := HS.out
                have HQD : Hid (Rd wr (qv (S0).2.2 qa qc).v (S0).2.2.b) := hQ.dat
                have HRT : Hid (∀ w', Calls Try.prog 16 #[ov (qv (S0).2.2 qa qc)] w' fun e w'' => e = .returned (.bool (rightO (qv (S0).2.2 none 0))) ∧ Below w'.heap.size w' w'') := fun w' => by rw [← right_qv (S0).2.2 qa qc]; exact right16 _ w'
                have HLQ : Hid (wr.rangeAt ob 0 (oc (qv (S0).2.2 qa qc))) := hQ.blk.range0
                have HLB : Hid (∀ w', Below wr.heap.size wr w' → w'.rangeAt ob 0 (oc (qv (S0).2.2 qa qc))) := fun w' h => (hQ.blk.below h).range0
                clear hQ
                cases hR : rightO (qv (S0).2.2 none 0)
                · rw [hR] at HRT
                  have HE : Hid (readM l (t1, t2) = (oz, 4)) := HFIN.out.2.2 rfl hR
                  go_wp2_with (first
                    | (go_at_call 35; go_must (refine HDN.out.mono ?_; rintro r w7 ⟨rfl, hw7⟩; replace hw7 := hw7.symm; subst hw7))
                    | (refine wpList_ok rfl (exec_load26 (q := qv (S0).2.2 qa qc) (.tmp 7) rfl rfl HLQ.out) ?_)
                    | (go_at_call 16; go_must (refine (HRT.out _).mono ?_; rintro r w8 ⟨rfl, hb8⟩; have HB8 : Hid (Below wr.heap.size wr w8) := hb8; have HT8 : Hid (w8.there B4 0 10) := Blk.there (HR4.out.below hb8) 0 10 (by first | (rw [oc_len]; done) | (rw [oc_len]; omega)); obtain ⟨wy, hwy⟩ : ∃ wy, wy = w8.setCells B4 0 (oc oz) := ⟨_, rfl⟩; have HWY : Hid (wy = w8.setCells B4 0 (oc oz)) := hwy; have HRY : Hid (ResB wy B4 oz) := (HR4.out.below hb8).putAt hwy; have HBY : Hid (Below w.heap.size w wy) := Below.putAt (HBW.out.trans (hb8.mono HBW.out.size)) (Nat.le_refl _) HNB.out.2.2.1 hwy; clear hb8 hwy))
                    | (refine wpList_skip rfl (exec_store26 (q := oz) (.tmp 4) (.tmp 39) rfl rfl rfl HT8.out) ?_; rw [← HWY.out]))
                  exact bodyPost_ret (v := .tuple #[ov oz, .int .i64 4]) (HRY.out.ret rfl rfl) rfl ⟨none, 0, by rw [HE.out]; rfl, by rw [HE.out]; exact rd_nil _, HBY.out⟩
                · rw [hR] at HRT
                  have HE : Hid (readM l (t1, t2) = ((S0).2.2, 0)) := HFIN.out.2.1 rfl hR
                  go_wp2_with (first
                    | (go_at_call 35; go_must (refine HDN.out.mono ?_; rintro r w7 ⟨rfl, hw7⟩; replace hw7 := hw7.symm; subst hw7))
                    | (refine wpList_ok rfl (exec_load26 (q := qv (S0).2.2 qa qc) (.tmp 7) rfl rfl HLQ.out) ?_)
                    | (go_at_call 16; go_must (refine (HRT.out _).mono ?_; rintro r w8 ⟨rfl, hb8⟩; have HB8 : Hid (Below wr.heap.size wr w8) := hb8; have HL8 : Hid (w8.rangeAt ob 0 (oc (qv (S0).2.2 qa qc))) := HLB.out w8 hb8; have HT8 : Hid (w8.there B4 0 10) := Blk.there (HR4.out.below hb8) 0 10 (by first | (rw [oc_len]; done) | (rw [oc_len]; omega)); obtain ⟨wy, hwy⟩ : ∃ wy, wy = w8.setCells B4 0 (oc (qv (S0).2.2 qa qc)) := ⟨_, rfl⟩; have HWY : Hid (wy = w8.setCells B4 0 (oc (qv (S0).2.2 qa qc))) := hwy; have HRY : Hid (ResB wy B4 (qv (S0).2.2 qa qc)) := (HR4.out.below hb8).putAt hwy; have HQY : Hid (Rd wy (qv (S0).2.2 qa qc).v (S0).2.2.b) := (HQD.out.below hb8).putAt (HR4.out.below hb8) hwy; have HBY : Hid (Below w.heap.size w wy) := Below.putAt (HBW.out.trans (hb8.mono HBW.out.size)) (Nat.le_refl _) HNB.out.2.2.1 hwy; clear hb8 hwy))
                    | (refine wpList_ok rfl (exec_load26 (q := qv (S0).2.2 qa qc) (.tmp 7) rfl rfl HL8.out) ?_)
                    | (refine wpList_skip rfl (exec_store26 (q := qv (S0).2.2 qa qc) (.tmp 4) (.tmp 40) rfl rfl rfl HT8.out) ?_; rw [← HWY.out]))
                  exact bodyPost_ret (v := .tuple #[ov (qv (S0).2.2 qa qc), .int .i64 0]) (HRY.out.ret rfl rfl) rfl ⟨qa, qc, by rw [HE.out], by rw [HE.out]; exact HQY.out, HBY.out⟩
              · have hDb : (D != 0) = true := by simpa using hD
                have HE : Hid (readM l (t1, t2) = (oz, D)) := HFIN.out.1 hD
                go_wp2_with (first
                  | (go_at_call 35; go_must (refine HDN.out.mono ?_; rintro r w7 ⟨rfl, hw7⟩; replace hw7 := hw7.symm; subst hw7))
                  | (refine wpList_skip rfl (exec_store26 (q := oz) (.tmp 4) (.tmp 34) rfl rfl rfl HT4.out) ?_; rw [← HWZ.out]))
                exact bodyPost_ret (v := .tuple #[ov oz, .int .i64 D]) (HRZ.out.ret rfl rfl) rfl ⟨none, 0, by rw [HE.out]; rfl, by rw [HE.out]; exact rd_nil _, HBZ.out⟩
end Go.Proofs.Ytcchokedfbogfaa
