/-
  The reference's log: Issue.
  The reference's log: Issue, where all is well.
  The law's same: has a log what the document's has?
-/
import Derived.Test.YteedjdflojfhmaaRAcc
namespace Go.Proofs.Yteedjdflojfhmaa
section
set_option linter.unusedVariables false
set_option linter.unusedSimpArgs false
set_option synthInstance.maxSize 20000
set_option maxHeartbeats 2000000
set_option maxRecDepth 20000
open Go.RowKit Go.Maps

/-- Behind the candidate of Issue: the sum was asked for, the candidate lies in a box. -/
structure RMid (w0 w w3 : World) (o o3 : Nat → Nat) (c r : Nat) (S : St) (m : Nat) (t u : Int) (cells : List Value) : Prop where
  orc : ROrc w0 w3 o3 r S
  mv : Mv [c, 8] w o w3 o3
  box : Blk w3 m 47 cells
  boxo : o3 m = c
  st : Blk w3 w.heap.size 45 [.int .i64 t, .int .i64 u]
  res : Blk w3 (w.heap.size + 1) 47 [.int .i64 0, .int .i64 0, .int .u64 0, .int .i64 0, .int .i64 0, .int .i64 0, .slice none 0 0, .int .u64 0]
  sto : o3 w.heap.size = c
  reso : o3 (w.heap.size + 1) = c
  lt : w.heap.size + 1 < m
theorem rmid_A {w0 w wd w2 : World} {o o2 : Nat → Nat} {c r : Nat} {S : St} {t u : Int} {cells : List Value} (hb : Below w.heap.size w wd) (st : Blk wd w.heap.size 45 [.int .i64 t, .int .i64 u]) (res : Blk wd (w.heap.size + 1) 47 [.int .i64 0, .int .i64 0, .int .u64 0, .int .i64 0, .int .i64 0, .int .i64 0, .slice none 0 0, .int .u64 0]) (hc8 : c ≠ 8) (hc0 : c ≠ 0) (hO : ROrc w0 w2 o2 r S) (m : Mv [8] wd (newTo o w c) w2 o2) :
    RMid w0 w (w2.alloc (.cells cells.toArray 47)) o (newTo o2 w2 c) c r S w2.heap.size t u cells := by
  have m3 : Mv [] w2 o2 (w2.alloc (.cells cells.toArray 47)) (newTo o2 w2 c) := Mv.of_below c (balloc (Below.refl _ _) _)
  have s1 : newTo o w c w.heap.size = c := newTo_new (Nat.le_refl _)
  have s2 : newTo o w c (w.heap.size + 1) = c := newTo_new (by omega)
  have h1 : o2 w.heap.size = c := by rw [m.ext _ st.lt]; exact s1
  have h2 : o2 (w.heap.size + 1) = c := by rw [m.ext _ res.lt]; exact s2
  have b1 := st.block (m.block _ st.lt (by rw [s1]; simp; omega))
  have b2 := res.block (m.block _ res.lt (by rw [s2]; simp; omega))
  refine ⟨hO.mv m3 (by simp) (by simp), ((Mv.of_below c hb).trans (m.widen (by simp))).trans (m3.widen (by simp)), blk_new w2 cells 47, newTo_new (Nat.le_refl _), b1.alloc _, b2.alloc _, ?_, ?_, b2.lt⟩
  · rw [newTo_old b1.lt]; exact h1
  · rw [newTo_old b2.lt]; exact h2
theorem rmid_B {w0 w wd w2 : World} {o o2 : Nat → Nat} {c r : Nat} {S : St} {t u : Int} {x0 x1 x2 x3 x4 x5 x6 x7 : Value} (hb : Below w.heap.size w wd) (st : Blk wd w.heap.size 45 [.int .i64 t, .int .i64 u]) (res : Blk wd (w.heap.size + 1) 47 [.int .i64 0, .int .i64 0, .int .u64 0, .int .i64 0, .int .i64 0, .int .i64 0, .slice none 0 0, .int .u64 0]) (hc8 : c ≠ 8) (hc0 : c ≠ 0) (hO : ROrc w0 w2 o2 r S) (m : Mv [8] (wd.alloc (.cells #[.int .i64 0, .int .i64 0, .int .u64 0, .int .i64 0, .int .i64 0, .int .i64 0, .slice none 0 0, .int .u64 0] 47)) (newTo o w c) w2 o2) :
    Blk w2 wd.heap.size 47 [.int .i64 0, .int .i64 0, .int .u64 0, .int .i64 0, .int .i64 0, .int .i64 0, .slice none 0 0, .int .u64 0] ∧ RMid w0 w ((((((((w2.setCell ⟨wd.heap.size, 0, none⟩ x0).setCell ⟨wd.heap.size, 1, none⟩ x1).setCell ⟨wd.heap.size, 2, none⟩ x2).setCell ⟨wd.heap.size, 3, none⟩ x3).setCell ⟨wd.heap.size, 4, none⟩ x4).setCell ⟨wd.heap.size, 5, none⟩ x5).setCell ⟨wd.heap.size, 6, none⟩ x6).setCell ⟨wd.heap.size, 7, none⟩ x7) o o2 c r S wd.heap.size t u [x0, x1, x2, x3, x4, x5, x6, x7] := by
  have hz := blk_new wd [.int .i64 0, .int .i64 0, .int .u64 0, .int .i64 0, .int .i64 0, .int .i64 0, .slice none 0 0, .int .u64 0] 47
  have st' := st.alloc (.cells #[.int .i64 0, .int .i64 0, .int .u64 0, .int .i64 0, .int .i64 0, .int .i64 0, .slice none 0 0, .int .u64 0] 47)
  have res' := res.alloc (.cells #[.int .i64 0, .int .i64 0, .int .u64 0, .int .i64 0, .int .i64 0, .int .i64 0, .slice none 0 0, .int .u64 0] 47)
  have s1 : newTo o w c w.heap.size = c := newTo_new (Nat.le_refl _)
  have s2 : newTo o w c (w.heap.size + 1) = c := newTo_new (by omega)
  have s3 : newTo o w c wd.heap.size = c := newTo_new hb.size
  have h1 : o2 w.heap.size = c := by rw [m.ext _ st'.lt]; exact s1
  have h2 : o2 (w.heap.size + 1) = c := by rw [m.ext _ res'.lt]; exact s2
  have h3 : o2 wd.heap.size = c := by rw [m.ext _ hz.lt]; exact s3
  have b1 := st'.block (m.block _ st'.lt (by rw [s1]; simp; omega))
  have b2 := res'.block (m.block _ res'.lt (by rw [s2]; simp; omega))
  have b3 := hz.block (m.block _ hz.lt (by rw [s3]; simp; omega))
  have G := grown_set8 w2 wd.heap.size x0 x1 x2 x3 x4 x5 x6 x7
  have m3 : Mv [c] w2 o2 _ o2 := ⟨G.os, G.tape, G.output, G.size, fun _ _ => rfl, fun k hk hn => G.block k hk (fun e => hn (by have := Option.some.inj e; subst this; rw [h3]; simp))⟩
  have l1 := st.lt
  have l2 := res.lt
  exact ⟨b3, hO.mv m3 (by simp; omega) (by simp; omega), ((Mv.of_below c (balloc hb _)).trans (m.widen (by simp))).trans (m3.widen (by simp)), b3.set8 _ _ _ _ _ _ _ _, h3, b1.past G (by omega), b2.past G (by omega), h1, h2, l2⟩

/-- What Issue of the reference needs. -/
structure RIss (w0 w : World) (o : Nat → Nat) (j lx r : Nat) (T S : St) (W p : Int) (es : List Ent) (sum s t u nn : Int) (l : List Int) (x : Value) : Prop where
  log : RLogIs w o j lx W p es
  orc : ROrc w0 w o r T
  head : headM T es = (sum, S)
  last : ∀ f, es.getLast? = some f → rightB f = true
  j8 : j ≠ 8
  j0 : j ≠ 0
  few : T.rows.length + 2 ≤ 100000
  short : es.length < 200
  rd : Kp0 w o x l
  ht : I64 t
  hu : I64 u
  hn : I64 nn
  hsum : U64 sum
  sec : S.at s = some .secret
theorem headM_len (T : St) (es : List Ent) : (headM T es).2.rows.length ≤ T.rows.length + 1 := by
  unfold headM
  split
  · exact Nat.le_succ _
  · exact get_len _ _
theorem rissue_bad {w0 w : World} {o : Nat → Nat} {j lx r : Nat} {T S : St} {W p : Int} {es : List Ent} {sum s t u nn : Int} {l : List Int} {x : Value} (h : RIss w0 w o j lx r T S W p es sum s t u nn l x) (hr : rightB (candE W ⟨es, sum⟩ t u nn l) = false) :
    Calls Try.prog 20 #[ptr lx, ptr r, .int .u64 s, .agg #[.int .i64 t, .int .i64 u], .int .i64 nn, x] w fun q w' => q = .returned (.tuple #[ev zeroE (.slice none 0 0), .int .i64 1]) ∧ ∃ o', ROrc w0 w' o' r S ∧ Mv [8] w o w' o' := by
  obtain ⟨c, hc1, hc8, hcf⟩ := fresh_owner w o (j + 8)
  have okc : EOk (candE W ⟨es, sum⟩ t u nn l) := by
    obtain ⟨v, ps, hA⟩ := h.log
    refine ⟨hA.hW, ?_, h.hsum, h.ht, h.hu, h.hn, ?_, h.rd.1.oct⟩
    · have := h.short; unfold I64 candE; dsimp only; omega
    · unfold U64 candE; dsimp only; omega
  have hlenS : S.rows.length ≤ T.rows.length + 1 := by have := headM_len T es; rw [h.head] at this; exact this
  have HE := fun (w' : World) (o' : Nat → Nat) (hl : RLogIs w' o' j lx W p es) (ho : ROrc w0 w' o' r T) => (show Calls Try.prog 41 #[ptr lx, ptr r] w' fun q w'' => q = .returned (.agg #[.int .i64 W, .int .i64 (es.length : Int), .int .u64 sum]) ∧ ∃ o'', ROrc w0 w'' o'' r S ∧ Mv [8] w' o' w'' o'' from by
    have := rhead_any hl ho h.j8 h.last (by have := h.few; omega)
    rw [h.head] at this
    exact this)
  have RT := fun (w' : World) (hr' : Rd w' x l) => refrightE_any (candE W ⟨es, sum⟩ t u nn l) x w' hr'
  rw [hr] at RT
  have HLg : Hid (RLogIs w o j lx W p es) := h.log
  have HO0 : Hid (ROrc w0 w o r T) := h.orc
  have HKX : Hid (Kp0 w o x l) := h.rd
  have HFr : Hid (j + 8 < c ∧ (∀ k, k < w.heap.size → o k ≠ c) ∧ j ≠ 8 ∧ j ≠ 0) := ⟨hc8, hcf, h.j8, h.j0⟩
  obtain ⟨v, ps, hA⟩ := h.log
  have hlen : es.length = ps.length := hA.len
  obtain ⟨av, cv', rfl, hcv1, hcv2, _⟩ := hA.row.slice
  unfold maxLen at hcv2
  have hblk := hA.blk
  have hown := hA.own
  have h200 : ¬ (200 : Int) ≤ ps.length := by have := h.short; omega
  have HShort : Hid (ps.length < 200) := (show ps.length < 200 from by have := h.short; omega)
  obtain ⟨a, cap, hxx⟩ := h.rd.1.len
  subst hxx
  clear hA hcf okc
  simp only [candE, hlen] at *
  unfold ev zeroE at *
  dsimp only at *
  have HHE : Hid (∀ (w' : World) (o' : Nat → Nat), RLogIs w' o' j lx W p es → ROrc w0 w' o' r T → Calls Try.prog 41 #[ptr lx, ptr r] w' fun q w'' => q = .returned (.agg #[.int .i64 W, .int .i64 (ps.length : Int), .int .u64 sum]) ∧ ∃ o'', ROrc w0 w'' o'' r S ∧ Mv [8] w' o' w'' o'') := HE
  have HRT : Hid (∀ (w' : World), Rd w' (.slice a l.length cap) l → Calls Try.prog 47 #[.agg #[.int .i64 W, .int .i64 (ps.length : Int), .int .u64 sum, .int .i64 t, .int .i64 u, .int .i64 nn, .slice a l.length cap, .int .u64 0]] w' fun q w'' => q = .returned (.bool false) ∧ Below w'.heap.size w' w'') := RT
  obtain ⟨w1, hw1⟩ : ∃ w1, w1 = (w.alloc (.cells #[.int .i64 t, .int .i64 u] 45)).alloc (.cells #[.int .i64 0, .int .i64 0, .int .u64 0, .int .i64 0, .int .i64 0, .int .i64 0, .slice none 0 0, .int .u64 0] 47) := ⟨_, rfl⟩
  have HB1 : Hid (Below w.heap.size w w1) := by show Below _ _ _; rw [hw1]; exact balloc (balloc (Below.refl _ _) _) _
  have HT1 : Hid (Blk w1 w.heap.size 45 [.int .i64 t, .int .i64 u]) := by show Blk _ _ _ _; rw [hw1]; exact (blk_new w [.int .i64 t, .int .i64 u] 45).alloc _
  have HZ1 : Hid (Blk w1 (w.heap.size + 1) 47 [.int .i64 0, .int .i64 0, .int .u64 0, .int .i64 0, .int .i64 0, .int .i64 0, .slice none 0 0, .int .u64 0]) := by
    show Blk _ _ _ _
    rw [hw1]
    have := blk_new (w.alloc (.cells #[.int .i64 t, .int .i64 u] 45)) [.int .i64 0, .int .i64 0, .int .u64 0, .int .i64 0, .int .i64 0, .int .i64 0, .slice none 0 0, .int .u64 0] 47
    simpa using this
  have HL1 : Hid (Blk w1 lx 42 [.int .i64 W, .int .u64 p, .slice av ps.length cv']) := (show Blk _ _ _ _ from hblk.below HB1.out)
  have HEl : Hid (es.length < 200) := h.short
  have HLo : Hid (o lx = j ∧ lx < w.heap.size) := ⟨hown, hblk.lt⟩
  have q3 := ((hblk.alloc (.cells #[.int .i64 t, .int .i64 u] 45)).alloc (.cells #[.int .i64 0, .int .i64 0, .int .u64 0, .int .i64 0, .int .i64 0, .int .i64 0, .slice none 0 0, .int .u64 0] 47)).cell 2 _ rfl
  clear h hblk hown HE RT
  go_enter Try.func20, Try.ntmps20
  go_upto_region 3 with fail
  rw [← hw1]
  clear hw1 q3
  obtain ⟨n0, hn0⟩ : ∃ n0, n0 = w.heap.size := ⟨_, rfl⟩
  have HN0 : Hid (n0 = w.heap.size) := hn0
  have HBd : Hid (Below w.heap.size w w1.drew) := HB1.out.drew
  have HTd : Hid (Blk w1.drew w.heap.size 45 [.int .i64 t, .int .i64 u]) := HT1.out
  have HZd : Hid (Blk w1.drew (w.heap.size + 1) 47 [.int .i64 0, .int .i64 0, .int .u64 0, .int .i64 0, .int .i64 0, .int .i64 0, .slice none 0 0, .int .u64 0]) := HZ1.out
  have HLd : Hid (Blk w1.drew lx 42 [.int .i64 W, .int .u64 p, .slice av ps.length cv']) := HL1.out
  have l0 := fun z : WIn (fun w' => Blk w' lx 42 [.int .i64 W, .int .u64 p, .slice av ps.length cv'] ∧ Blk w' w.heap.size 45 [.int .i64 t, .int .i64 u]) => z.ok.1.cell 0 _ rfl
  have l2 := fun z : WIn (fun w' => Blk w' lx 42 [.int .i64 W, .int .u64 p, .slice av ps.length cv'] ∧ Blk w' w.heap.size 45 [.int .i64 t, .int .i64 u]) => z.ok.1.cell 2 _ rfl
  have t0 := fun z : WIn (fun w' => Blk w' lx 42 [.int .i64 W, .int .u64 p, .slice av ps.length cv'] ∧ Blk w' w.heap.size 45 [.int .i64 t, .int .i64 u]) => z.ok.2.cell 0 _ rfl
  have t1 := fun z : WIn (fun w' => Blk w' lx 42 [.int .i64 W, .int .u64 p, .slice av ps.length cv'] ∧ Blk w' w.heap.size 45 [.int .i64 t, .int .i64 u]) => z.ok.2.cell 1 _ rfl
  have ne : Nonempty (WIn (fun w' => Blk w' lx 42 [.int .i64 W, .int .u64 p, .slice av ps.length cv'] ∧ Blk w' w.heap.size 45 [.int .i64 t, .int .i64 u])) := ⟨⟨w1, HL1.out, HT1.out⟩⟩
  refine wp_region_tree (C := fun w' => ∃ z : WIn (fun w' => Blk w' lx 42 [.int .i64 W, .int .u64 p, .slice av ps.length cv'] ∧ Blk w' w.heap.size 45 [.int .i64 t, .int .i64 u]), w' = z.w)
    (.still 0 (.still 1 (.still 2 (.still 3 (.still 4 (.still 5 (.still 6 (.still 7 (.still 8 (.still 9 (.still 10 (.still 13 (.still 14 (.still 15 (.two 11 (.still 12 (.still 16 (.one 17 (.one 18 .done)))) 17 (.one 11 (.still 12 (.still 16 (.one 18 .done)))))))))))))))))))
    (by kernel_rfl) (by kernel_rfl) ⟨⟨w1.drew, HLd.out, HTd.out⟩, rfl⟩ ?_
  clear HB1 HT1 HZ1 HL1
  generalize w1.drew = wd at *
  have HMd : Hid (Mv [] w o wd (newTo o w c)) := Mv.of_below c HBd.out
  have HMa : Hid (Mv [] w o (wd.alloc (.cells #[.int .i64 0, .int .i64 0, .int .u64 0, .int .i64 0, .int .i64 0, .int .i64 0, .slice none 0 0, .int .u64 0] 47)) (newTo o w c)) := Mv.of_below c (balloc HBd.out _)
  have HC : Hid (c ≠ 8 ∧ c ≠ 0 ∧ c ≠ j) := (show _ ∧ _ ∧ _ from by have := HFr.out.1; exact ⟨by omega, by omega, by omega⟩)
  iterate 14 (refine tree_still rfl rfl ?_; go_big_quiet_step (fail); refine wpQuiet_nil ?_)
  refine tree_two rfl rfl rfl rfl ?wayA ?wayB
  case' wayA =>
    go_simp
    refine (HHE.out wd (newTo o w c) (HLg.out.mv HMd.out (by simp) (by simp)) (HO0.out.mv HMd.out (by simp) (by simp))).mono ?_
    rintro q w2 ⟨rfl, o2, hO2, hM2⟩
    have HMid0 := rmid_A (cells := [.int .i64 W, .int .i64 (ps.length : Int), .int .u64 sum, .int .i64 t, .int .i64 u, .int .i64 nn, .slice a l.length cap, .int .u64 0]) (t := t) (u := u) HBd.out HTd.out HZd.out HC.out.1 HC.out.2.1 hO2 hM2
    have HL2 : Hid (Blk w2 lx 42 [.int .i64 W, .int .u64 p, .slice av ps.length cv']) := (show Blk _ _ _ _ from HLd.out.block (hM2.block lx HLd.out.lt (by rw [newTo_old HLo.out.2, HLo.out.1]; have := HFr.out.2.2.1; simp; omega)))
    have HT2 : Hid (Blk w2 w.heap.size 45 [.int .i64 t, .int .i64 u]) := (show Blk _ _ _ _ from HTd.out.block (hM2.block _ HTd.out.lt (by rw [newTo_new (Nat.le_refl _)]; have := HC.out.1; simp; omega)))
    have HMid1 : Hid (RMid w0 w (w2.alloc (.cells #[.int .i64 W, .int .i64 (ps.length : Int), .int .u64 sum, .int .i64 t, .int .i64 u, .int .i64 nn, .slice a l.length cap, .int .u64 0] 47)) o (newTo o2 w2 c) c r S w2.heap.size t u [.int .i64 W, .int .i64 (ps.length : Int), .int .u64 sum, .int .i64 t, .int .i64 u, .int .i64 nn, .slice a l.length cap, .int .u64 0]) := HMid0
    clear hO2 hM2 HMid0
    refine ⟨⟨⟨w2, HL2.out, HT2.out⟩, rfl⟩, ?_⟩
    iterate 2 (refine tree_still rfl rfl ?_; go_big_quiet_step (fail); refine wpQuiet_nil ?_)
    refine tree_one rfl rfl ?_
    go_simp
    refine ⟨⟨⟨_, HL2.out.alloc _, HT2.out.alloc _⟩, rfl⟩, ?_⟩
    refine tree_one rfl rfl ?_
    go_simp
    refine ⟨⟨⟨_, HL2.out.alloc _, HT2.out.alloc _⟩, rfl⟩, ?_⟩
    generalize hw3 : w2.alloc (.cells #[.int .i64 W, .int .i64 (ps.length : Int), .int .u64 sum, .int .i64 t, .int .i64 u, .int .i64 nn, .slice a l.length cap, .int .u64 0] 47) = w3
    generalize hm : w2.heap.size = m
    have HMid : Hid (∃ o3, RMid w0 w w3 o o3 c r S m t u [.int .i64 W, .int .i64 (ps.length : Int), .int .u64 sum, .int .i64 t, .int .i64 u, .int .i64 nn, .slice a l.length cap, .int .u64 0]) := ⟨_, (show RMid w0 w w3 o _ c r S m t u [.int .i64 W, .int .i64 (ps.length : Int), .int .u64 sum, .int .i64 t, .int .i64 u, .int .i64 nn, .slice a l.length cap, .int .u64 0] from by rw [← hw3, ← hm]; exact HMid1.out)⟩
    clear hw3 hm HMid1 HL2 HT2
  case' wayB =>
    go_simp
    refine ⟨⟨⟨_, HLd.out.alloc _, HTd.out.alloc _⟩, rfl⟩, ?_⟩
    refine tree_one rfl rfl ?_
    go_simp
    refine (HHE.out (wd.alloc (.cells #[.int .i64 0, .int .i64 0, .int .u64 0, .int .i64 0, .int .i64 0, .int .i64 0, .slice none 0 0, .int .u64 0] 47)) (newTo o w c) (HLg.out.mv HMa.out (by simp) (by simp)) (HO0.out.mv HMa.out (by simp) (by simp))).mono ?_
    rintro q w2 ⟨rfl, o2, hO2, hM2⟩
    have HMid0 := rmid_B (t := t) (u := u) (x0 := .int .i64 W) (x1 := .int .i64 (ps.length : Int)) (x2 := .int .u64 sum) (x3 := .int .i64 t) (x4 := .int .i64 u) (x5 := .int .i64 nn) (x6 := .slice a l.length cap) (x7 := .int .u64 0) HBd.out HTd.out HZd.out HC.out.1 HC.out.2.1 hO2 hM2
    have HL2 : Hid (Blk w2 lx 42 [.int .i64 W, .int .u64 p, .slice av ps.length cv']) := (show Blk _ _ _ _ from (HLd.out.alloc _).block (hM2.block lx (HLd.out.alloc _).lt (by rw [newTo_old HLo.out.2, HLo.out.1]; have := HFr.out.2.2.1; simp; omega)))
    have HT2 : Hid (Blk w2 w.heap.size 45 [.int .i64 t, .int .i64 u]) := (show Blk _ _ _ _ from (HTd.out.alloc _).block (hM2.block _ (HTd.out.alloc _).lt (by rw [newTo_new (Nat.le_refl _)]; have := HC.out.1; simp; omega)))
    have HMid1 : Hid (Blk w2 wd.heap.size 47 [.int .i64 0, .int .i64 0, .int .u64 0, .int .i64 0, .int .i64 0, .int .i64 0, .slice none 0 0, .int .u64 0] ∧ RMid w0 w _ o o2 c r S wd.heap.size t u [.int .i64 W, .int .i64 (ps.length : Int), .int .u64 sum, .int .i64 t, .int .i64 u, .int .i64 nn, .slice a l.length cap, .int .u64 0]) := HMid0
    have HLx : Hid (lx ≠ wd.heap.size ∧ w.heap.size ≠ wd.heap.size) := (show _ ∧ _ from ⟨by have := HLd.out.lt; omega, by have := HTd.out.lt; omega⟩)
    clear hO2 hM2 HMid0
    refine ⟨⟨⟨w2, HL2.out, HT2.out⟩, rfl⟩, ?_⟩
    iterate 2 (refine tree_still rfl rfl ?_; go_big_quiet_step (fail); refine wpQuiet_nil ?_)
    have Z2 := HMid1.out.1
    have z0 := Z2.cell 0 _ rfl; have z1 := Z2.cell 1 _ rfl; have z2 := Z2.cell 2 _ rfl; have z3 := Z2.cell 3 _ rfl; have z4 := Z2.cell 4 _ rfl; have z5 := Z2.cell 5 _ rfl; have z6 := Z2.cell 6 _ rfl; have z7 := Z2.cell 7 _ rfl; have f0 := Z2.frozen 0; have f1 := Z2.frozen 1; have f2 := Z2.frozen 2; have f3 := Z2.frozen 3; have f4 := Z2.frozen 4; have f5 := Z2.frozen 5; have f6 := Z2.frozen 6; have f7 := Z2.frozen 7
    clear Z2
    refine tree_one rfl rfl ?_
    go_simp
    have G8 := grown_set8 w2 wd.heap.size (.int .i64 W) (.int .i64 (ps.length : Int)) (.int .u64 sum) (.int .i64 t) (.int .i64 u) (.int .i64 nn) (.slice a l.length cap) (.int .u64 0)
    refine ⟨⟨⟨_, HL2.out.past G8 HLx.out.1, HT2.out.past G8 HLx.out.2⟩, rfl⟩, ?_⟩
    clear z0 z1 z2 z3 z4 z5 z6 z7 f0 f1 f2 f3 f4 f5 f6 f7 G8
    have HMid2 := HMid1.out.2
    generalize ((((((((w2.setCell ⟨wd.heap.size, 0, none⟩ (.int .i64 W)).setCell ⟨wd.heap.size, 1, none⟩ (.int .i64 (ps.length : Int))).setCell ⟨wd.heap.size, 2, none⟩ (.int .u64 sum)).setCell ⟨wd.heap.size, 3, none⟩ (.int .i64 t)).setCell ⟨wd.heap.size, 4, none⟩ (.int .i64 u)).setCell ⟨wd.heap.size, 5, none⟩ (.int .i64 nn)).setCell ⟨wd.heap.size, 6, none⟩ (.slice a l.length cap)).setCell ⟨wd.heap.size, 7, none⟩ (.int .u64 0)) = w3 at *
    generalize hm : wd.heap.size = m at *
    have HMid : Hid (∃ o3, RMid w0 w w3 o o3 c r S m t u [.int .i64 W, .int .i64 (ps.length : Int), .int .u64 sum, .int .i64 t, .int .i64 u, .int .i64 nn, .slice a l.length cap, .int .u64 0]) := ⟨_, HMid2⟩
    clear hm HMid1 HMid2 HL2 HT2 HLx
  all_goals
    refine tree_done ?_
    clear l0 l2 t0 t1 ne
    obtain ⟨o3, hmid⟩ := HMid.out
    have HM3 : Hid (RMid w0 w w3 o o3 c r S m t u [.int .i64 W, .int .i64 (ps.length : Int), .int .u64 sum, .int .i64 t, .int .i64 u, .int .i64 nn, .slice a l.length cap, .int .u64 0]) := hmid
    clear hmid HMid HTd HZd HLd HBd HMd HMa
    have HK3 : Hid (Kp0 w3 o3 (.slice a l.length cap) l) := HKX.out.mv HM3.out.mv (by have := HC.out; simp; omega)
    have HG3 : Hid (RLogIs w3 o3 j lx W p es) := HLg.out.mv HM3.out.mv (by have := HC.out; simp; omega) (by have h1 := HC.out; have h2 := HFr.out.2.2; simp; omega)
    have c0 := HM3.out.box.cell 0 _ rfl; have c1 := HM3.out.box.cell 1 _ rfl; have c2 := HM3.out.box.cell 2 _ rfl; have c3 := HM3.out.box.cell 3 _ rfl; have c4 := HM3.out.box.cell 4 _ rfl; have c5 := HM3.out.box.cell 5 _ rfl; have c6 := HM3.out.box.cell 6 _ rfl; have c7 := HM3.out.box.cell 7 _ rfl
    have s0 := HM3.out.st.cell 0 _ rfl; have s1 := HM3.out.st.cell 1 _ rfl
    go_wp2_with (go_at_call 47; go_must (refine (HRT.out w3 HK3.out.1).mono ?_; rintro q w4 ⟨rfl, hb4⟩; have HB4 : Hid (Below w3.heap.size w3 w4) := hb4; clear hb4; have S4 := HM3.out.st.below HB4.out; have s40 := S4.cell 0 _ rfl; have s41 := S4.cell 1 _ rfl; have Z4 := HM3.out.res.below HB4.out; have z0 := Z4.cell 0 _ rfl; have z1 := Z4.cell 1 _ rfl; have z2 := Z4.cell 2 _ rfl; have z3 := Z4.cell 3 _ rfl; have z4 := Z4.cell 4 _ rfl; have z5 := Z4.cell 5 _ rfl; have z6 := Z4.cell 6 _ rfl; have z7 := Z4.cell 7 _ rfl; have f0 := Z4.frozen 0; have f1 := Z4.frozen 1; have f2 := Z4.frozen 2; have f3 := Z4.frozen 3; have f4 := Z4.frozen 4; have f5 := Z4.frozen 5; have f6 := Z4.frozen 6; have f7 := Z4.frozen 7; clear S4 Z4))
    refine bodyPost_ret (v := .tuple #[.agg #[.int .i64 0, .int .i64 0, .int .u64 0, .int .i64 0, .int .i64 0, .int .i64 0, .slice none 0 0, .int .u64 0], .int .i64 1]) ?_ rfl ⟨rfl, ?_⟩
    · rw [results_cell_tmp rfl]
      go_simp
    · have G := grown_set8 w4 (w.heap.size + 1) (.int .i64 0) (.int .i64 0) (.int .u64 0) (.int .i64 0) (.int .i64 0) (.int .i64 0) (.slice none 0 0) (.int .u64 0)
      have hr' : newTo o3 w3 0 (w.heap.size + 1) = c := by rw [newTo_old HM3.out.res.lt]; exact HM3.out.reso
      have M : Mv [c] w4 (newTo o3 w3 0) _ (newTo o3 w3 0) := ⟨G.os, G.tape, G.output, G.size, fun _ _ => rfl, fun k hk hn => G.block k hk (fun e => hn (by have := Option.some.inj e; subst this; rw [hr']; simp))⟩
      have h8 := HC.out
      exact ⟨_, (HM3.out.orc.below HB4.out).mv M (by simp; omega) (by simp; omega), ((HM3.out.mv.trans (Mv.of_below 0 HB4.out)).trans (M.widen (by simp))).restrict HFr.out.2.1⟩

theorem rissue_late {w0 w : World} {o : Nat → Nat} {j lx r : Nat} {T S : St} {W p : Int} {es : List Ent} {sum s t u nn : Int} {l : List Int} {x : Value} (h : RIss w0 w o j lx r T S W p es sum s t u nn l x) (hr : rightB (candE W ⟨es, sum⟩ t u nn l) = true) (hlt : laterB es (candE W ⟨es, sum⟩ t u nn l) = false) :
    Calls Try.prog 20 #[ptr lx, ptr r, .int .u64 s, .agg #[.int .i64 t, .int .i64 u], .int .i64 nn, x] w fun q w' => q = .returned (.tuple #[ev zeroE (.slice none 0 0), .int .i64 2]) ∧ ∃ o', ROrc w0 w' o' r S ∧ Mv [8] w o w' o' := by
  obtain ⟨c, hc1, hc8, hcf⟩ := fresh_owner w o (j + 8)
  have okc : EOk (candE W ⟨es, sum⟩ t u nn l) := by
    obtain ⟨v, ps, hA⟩ := h.log
    refine ⟨hA.hW, ?_, h.hsum, h.ht, h.hu, h.hn, ?_, h.rd.1.oct⟩
    · have := h.short; unfold I64 candE; dsimp only; omega
    · unfold U64 candE; dsimp only; omega
  have hlenS : S.rows.length ≤ T.rows.length + 1 := by have := headM_len T es; rw [h.head] at this; exact this
  have HE := fun (w' : World) (o' : Nat → Nat) (hl : RLogIs w' o' j lx W p es) (ho : ROrc w0 w' o' r T) => (show Calls Try.prog 41 #[ptr lx, ptr r] w' fun q w'' => q = .returned (.agg #[.int .i64 W, .int .i64 (es.length : Int), .int .u64 sum]) ∧ ∃ o'', ROrc w0 w'' o'' r S ∧ Mv [8] w' o' w'' o'' from by
    have := rhead_any hl ho h.j8 h.last (by have := h.few; omega)
    rw [h.head] at this
    exact this)
  have RT := fun (w' : World) (hr' : Rd w' x l) => refrightE_any (candE W ⟨es, sum⟩ t u nn l) x w' hr'
  rw [hr] at RT
  have LT := fun (w' : World) (o' : Nat → Nat) (hl : RLogIs w' o' j lx W p es) => rlate_any hl (candE W ⟨es, sum⟩ t u nn l)
  rw [hlt] at LT
  have HLg : Hid (RLogIs w o j lx W p es) := h.log
  have HO0 : Hid (ROrc w0 w o r T) := h.orc
  have HKX : Hid (Kp0 w o x l) := h.rd
  have HFr : Hid (j + 8 < c ∧ (∀ k, k < w.heap.size → o k ≠ c) ∧ j ≠ 8 ∧ j ≠ 0) := ⟨hc8, hcf, h.j8, h.j0⟩
  obtain ⟨v, ps, hA⟩ := h.log
  have hlen : es.length = ps.length := hA.len
  obtain ⟨av, cv', rfl, hcv1, hcv2, _⟩ := hA.row.slice
  unfold maxLen at hcv2
  have hblk := hA.blk
  have hown := hA.own
  have h200 : ¬ (200 : Int) ≤ ps.length := by have := h.short; omega
  have HShort : Hid (ps.length < 200) := (show ps.length < 200 from by have := h.short; omega)
  obtain ⟨a, cap, hxx⟩ := h.rd.1.len
  subst hxx
  clear hA hcf okc
  simp only [candE, hlen] at *
  unfold ev zeroE at *
  dsimp only at *
  have HHE : Hid (∀ (w' : World) (o' : Nat → Nat), RLogIs w' o' j lx W p es → ROrc w0 w' o' r T → Calls Try.prog 41 #[ptr lx, ptr r] w' fun q w'' => q = .returned (.agg #[.int .i64 W, .int .i64 (ps.length : Int), .int .u64 sum]) ∧ ∃ o'', ROrc w0 w'' o'' r S ∧ Mv [8] w' o' w'' o'') := HE
  have HRT : Hid (∀ (w' : World), Rd w' (.slice a l.length cap) l → Calls Try.prog 47 #[.agg #[.int .i64 W, .int .i64 (ps.length : Int), .int .u64 sum, .int .i64 t, .int .i64 u, .int .i64 nn, .slice a l.length cap, .int .u64 0]] w' fun q w'' => q = .returned (.bool true) ∧ Below w'.heap.size w' w'') := RT
  have HLT : Hid (∀ (w' : World) (o' : Nat → Nat), RLogIs w' o' j lx W p es → Calls Try.prog 48 #[ptr lx, .agg #[.int .i64 t, .int .i64 u]] w' fun q w'' => q = .returned (.bool (!false)) ∧ Below w'.heap.size w' w'') := LT
  obtain ⟨w1, hw1⟩ : ∃ w1, w1 = (w.alloc (.cells #[.int .i64 t, .int .i64 u] 45)).alloc (.cells #[.int .i64 0, .int .i64 0, .int .u64 0, .int .i64 0, .int .i64 0, .int .i64 0, .slice none 0 0, .int .u64 0] 47) := ⟨_, rfl⟩
  have HB1 : Hid (Below w.heap.size w w1) := by show Below _ _ _; rw [hw1]; exact balloc (balloc (Below.refl _ _) _) _
  have HT1 : Hid (Blk w1 w.heap.size 45 [.int .i64 t, .int .i64 u]) := by show Blk _ _ _ _; rw [hw1]; exact (blk_new w [.int .i64 t, .int .i64 u] 45).alloc _
  have HZ1 : Hid (Blk w1 (w.heap.size + 1) 47 [.int .i64 0, .int .i64 0, .int .u64 0, .int .i64 0, .int .i64 0, .int .i64 0, .slice none 0 0, .int .u64 0]) := by
    show Blk _ _ _ _
    rw [hw1]
    have := blk_new (w.alloc (.cells #[.int .i64 t, .int .i64 u] 45)) [.int .i64 0, .int .i64 0, .int .u64 0, .int .i64 0, .int .i64 0, .int .i64 0, .slice none 0 0, .int .u64 0] 47
    simpa using this
  have HL1 : Hid (Blk w1 lx 42 [.int .i64 W, .int .u64 p, .slice av ps.length cv']) := (show Blk _ _ _ _ from hblk.below HB1.out)
  have HEl : Hid (es.length < 200) := h.short
  have HLo : Hid (o lx = j ∧ lx < w.heap.size) := ⟨hown, hblk.lt⟩
  have q3 := ((hblk.alloc (.cells #[.int .i64 t, .int .i64 u] 45)).alloc (.cells #[.int .i64 0, .int .i64 0, .int .u64 0, .int .i64 0, .int .i64 0, .int .i64 0, .slice none 0 0, .int .u64 0] 47)).cell 2 _ rfl
  clear h hblk hown HE RT LT
  go_enter Try.func20, Try.ntmps20
  go_upto_region 3 with fail
  rw [← hw1]
  clear hw1 q3
  obtain ⟨n0, hn0⟩ : ∃ n0, n0 = w.heap.size := ⟨_, rfl⟩
  have HN0 : Hid (n0 = w.heap.size) := hn0
  have HBd : Hid (Below w.heap.size w w1.drew) := HB1.out.drew
  have HTd : Hid (Blk w1.drew w.heap.size 45 [.int .i64 t, .int .i64 u]) := HT1.out
  have HZd : Hid (Blk w1.drew (w.heap.size + 1) 47 [.int .i64 0, .int .i64 0, .int .u64 0, .int .i64 0, .int .i64 0, .int .i64 0, .slice none 0 0, .int .u64 0]) := HZ1.out
  have HLd : Hid (Blk w1.drew lx 42 [.int .i64 W, .int .u64 p, .slice av ps.length cv']) := HL1.out
  have l0 := fun z : WIn (fun w' => Blk w' lx 42 [.int .i64 W, .int .u64 p, .slice av ps.length cv'] ∧ Blk w' w.heap.size 45 [.int .i64 t, .int .i64 u]) => z.ok.1.cell 0 _ rfl
  have l2 := fun z : WIn (fun w' => Blk w' lx 42 [.int .i64 W, .int .u64 p, .slice av ps.length cv'] ∧ Blk w' w.heap.size 45 [.int .i64 t, .int .i64 u]) => z.ok.1.cell 2 _ rfl
  have t0 := fun z : WIn (fun w' => Blk w' lx 42 [.int .i64 W, .int .u64 p, .slice av ps.length cv'] ∧ Blk w' w.heap.size 45 [.int .i64 t, .int .i64 u]) => z.ok.2.cell 0 _ rfl
  have t1 := fun z : WIn (fun w' => Blk w' lx 42 [.int .i64 W, .int .u64 p, .slice av ps.length cv'] ∧ Blk w' w.heap.size 45 [.int .i64 t, .int .i64 u]) => z.ok.2.cell 1 _ rfl
  have ne : Nonempty (WIn (fun w' => Blk w' lx 42 [.int .i64 W, .int .u64 p, .slice av ps.length cv'] ∧ Blk w' w.heap.size 45 [.int .i64 t, .int .i64 u])) := ⟨⟨w1, HL1.out, HT1.out⟩⟩
  refine wp_region_tree (C := fun w' => ∃ z : WIn (fun w' => Blk w' lx 42 [.int .i64 W, .int .u64 p, .slice av ps.length cv'] ∧ Blk w' w.heap.size 45 [.int .i64 t, .int .i64 u]), w' = z.w)
    (.still 0 (.still 1 (.still 2 (.still 3 (.still 4 (.still 5 (.still 6 (.still 7 (.still 8 (.still 9 (.still 10 (.still 13 (.still 14 (.still 15 (.two 11 (.still 12 (.still 16 (.one 17 (.one 18 .done)))) 17 (.one 11 (.still 12 (.still 16 (.one 18 .done)))))))))))))))))))
    (by kernel_rfl) (by kernel_rfl) ⟨⟨w1.drew, HLd.out, HTd.out⟩, rfl⟩ ?_
  clear HB1 HT1 HZ1 HL1
  generalize w1.drew = wd at *
  have HMd : Hid (Mv [] w o wd (newTo o w c)) := Mv.of_below c HBd.out
  have HMa : Hid (Mv [] w o (wd.alloc (.cells #[.int .i64 0, .int .i64 0, .int .u64 0, .int .i64 0, .int .i64 0, .int .i64 0, .slice none 0 0, .int .u64 0] 47)) (newTo o w c)) := Mv.of_below c (balloc HBd.out _)
  have HC : Hid (c ≠ 8 ∧ c ≠ 0 ∧ c ≠ j) := (show _ ∧ _ ∧ _ from by have := HFr.out.1; exact ⟨by omega, by omega, by omega⟩)
  iterate 14 (refine tree_still rfl rfl ?_; go_big_quiet_step (fail); refine wpQuiet_nil ?_)
  refine tree_two rfl rfl rfl rfl ?wayA ?wayB
  case' wayA =>
    go_simp
    refine (HHE.out wd (newTo o w c) (HLg.out.mv HMd.out (by simp) (by simp)) (HO0.out.mv HMd.out (by simp) (by simp))).mono ?_
    rintro q w2 ⟨rfl, o2, hO2, hM2⟩
    have HMid0 := rmid_A (cells := [.int .i64 W, .int .i64 (ps.length : Int), .int .u64 sum, .int .i64 t, .int .i64 u, .int .i64 nn, .slice a l.length cap, .int .u64 0]) (t := t) (u := u) HBd.out HTd.out HZd.out HC.out.1 HC.out.2.1 hO2 hM2
    have HL2 : Hid (Blk w2 lx 42 [.int .i64 W, .int .u64 p, .slice av ps.length cv']) := (show Blk _ _ _ _ from HLd.out.block (hM2.block lx HLd.out.lt (by rw [newTo_old HLo.out.2, HLo.out.1]; have := HFr.out.2.2.1; simp; omega)))
    have HT2 : Hid (Blk w2 w.heap.size 45 [.int .i64 t, .int .i64 u]) := (show Blk _ _ _ _ from HTd.out.block (hM2.block _ HTd.out.lt (by rw [newTo_new (Nat.le_refl _)]; have := HC.out.1; simp; omega)))
    have HMid1 : Hid (RMid w0 w (w2.alloc (.cells #[.int .i64 W, .int .i64 (ps.length : Int), .int .u64 sum, .int .i64 t, .int .i64 u, .int .i64 nn, .slice a l.length cap, .int .u64 0] 47)) o (newTo o2 w2 c) c r S w2.heap.size t u [.int .i64 W, .int .i64 (ps.length : Int), .int .u64 sum, .int .i64 t, .int .i64 u, .int .i64 nn, .slice a l.length cap, .int .u64 0]) := HMid0
    clear hO2 hM2 HMid0
    refine ⟨⟨⟨w2, HL2.out, HT2.out⟩, rfl⟩, ?_⟩
    iterate 2 (refine tree_still rfl rfl ?_; go_big_quiet_step (fail); refine wpQuiet_nil ?_)
    refine tree_one rfl rfl ?_
    go_simp
    refine ⟨⟨⟨_, HL2.out.alloc _, HT2.out.alloc _⟩, rfl⟩, ?_⟩
    refine tree_one rfl rfl ?_
    go_simp
    refine ⟨⟨⟨_, HL2.out.alloc _, HT2.out.alloc _⟩, rfl⟩, ?_⟩
    generalize hw3 : w2.alloc (.cells #[.int .i64 W, .int .i64 (ps.length : Int), .int .u64 sum, .int .i64 t, .int .i64 u, .int .i64 nn, .slice a l.length cap, .int .u64 0] 47) = w3
    generalize hm : w2.heap.size = m
    have HMid : Hid (∃ o3, RMid w0 w w3 o o3 c r S m t u [.int .i64 W, .int .i64 (ps.length : Int), .int .u64 sum, .int .i64 t, .int .i64 u, .int .i64 nn, .slice a l.length cap, .int .u64 0]) := ⟨_, (show RMid w0 w w3 o _ c r S m t u [.int .i64 W, .int .i64 (ps.length : Int), .int .u64 sum, .int .i64 t, .int .i64 u, .int .i64 nn, .slice a l.length cap, .int .u64 0] from by rw [← hw3, ← hm]; exact HMid1.out)⟩
    clear hw3 hm HMid1 HL2 HT2
  case' wayB =>
    go_simp
    refine ⟨⟨⟨_, HLd.out.alloc _, HTd.out.alloc _⟩, rfl⟩, ?_⟩
    refine tree_one rfl rfl ?_
    go_simp
    refine (HHE.out (wd.alloc (.cells #[.int .i64 0, .int .i64 0, .int .u64 0, .int .i64 0, .int .i64 0, .int .i64 0, .slice none 0 0, .int .u64 0] 47)) (newTo o w c) (HLg.out.mv HMa.out (by simp) (by simp)) (HO0.out.mv HMa.out (by simp) (by simp))).mono ?_
    rintro q w2 ⟨rfl, o2, hO2, hM2⟩
    have HMid0 := rmid_B (t := t) (u := u) (x0 := .int .i64 W) (x1 := .int .i64 (ps.length : Int)) (x2 := .int .u64 sum) (x3 := .int .i64 t) (x4 := .int .i64 u) (x5 := .int .i64 nn) (x6 := .slice a l.length cap) (x7 := .int .u64 0) HBd.out HTd.out HZd.out HC.out.1 HC.out.2.1 hO2 hM2
    have HL2 : Hid (Blk w2 lx 42 [.int .i64 W, .int .u64 p, .slice av ps.length cv']) := (show Blk _ _ _ _ from (HLd.out.alloc _).block (hM2.block lx (HLd.out.alloc _).lt (by rw [newTo_old HLo.out.2, HLo.out.1]; have := HFr.out.2.2.1; simp; omega)))
    have HT2 : Hid (Blk w2 w.heap.size 45 [.int .i64 t, .int .i64 u]) := (show Blk _ _ _ _ from (HTd.out.alloc _).block (hM2.block _ (HTd.out.alloc _).lt (by rw [newTo_new (Nat.le_refl _)]; have := HC.out.1; simp; omega)))
    have HMid1 : Hid (Blk w2 wd.heap.size 47 [.int .i64 0, .int .i64 0, .int .u64 0, .int .i64 0, .int .i64 0, .int .i64 0, .slice none 0 0, .int .u64 0] ∧ RMid w0 w _ o o2 c r S wd.heap.size t u [.int .i64 W, .int .i64 (ps.length : Int), .int .u64 sum, .int .i64 t, .int .i64 u, .int .i64 nn, .slice a l.length cap, .int .u64 0]) := HMid0
    have HLx : Hid (lx ≠ wd.heap.size ∧ w.heap.size ≠ wd.heap.size) := (show _ ∧ _ from ⟨by have := HLd.out.lt; omega, by have := HTd.out.lt; omega⟩)
    clear hO2 hM2 HMid0
    refine ⟨⟨⟨w2, HL2.out, HT2.out⟩, rfl⟩, ?_⟩
    iterate 2 (refine tree_still rfl rfl ?_; go_big_quiet_step (fail); refine wpQuiet_nil ?_)
    have Z2 := HMid1.out.1
    have z0 := Z2.cell 0 _ rfl; have z1 := Z2.cell 1 _ rfl; have z2 := Z2.cell 2 _ rfl; have z3 := Z2.cell 3 _ rfl; have z4 := Z2.cell 4 _ rfl; have z5 := Z2.cell 5 _ rfl; have z6 := Z2.cell 6 _ rfl; have z7 := Z2.cell 7 _ rfl; have f0 := Z2.frozen 0; have f1 := Z2.frozen 1; have f2 := Z2.frozen 2; have f3 := Z2.frozen 3; have f4 := Z2.frozen 4; have f5 := Z2.frozen 5; have f6 := Z2.frozen 6; have f7 := Z2.frozen 7
    clear Z2
    refine tree_one rfl rfl ?_
    go_simp
    have G8 := grown_set8 w2 wd.heap.size (.int .i64 W) (.int .i64 (ps.length : Int)) (.int .u64 sum) (.int .i64 t) (.int .i64 u) (.int .i64 nn) (.slice a l.length cap) (.int .u64 0)
    refine ⟨⟨⟨_, HL2.out.past G8 HLx.out.1, HT2.out.past G8 HLx.out.2⟩, rfl⟩, ?_⟩
    clear z0 z1 z2 z3 z4 z5 z6 z7 f0 f1 f2 f3 f4 f5 f6 f7 G8
    have HMid2 := HMid1.out.2
    generalize ((((((((w2.setCell ⟨wd.heap.size, 0, none⟩ (.int .i64 W)).setCell ⟨wd.heap.size, 1, none⟩ (.int .i64 (ps.length : Int))).setCell ⟨wd.heap.size, 2, none⟩ (.int .u64 sum)).setCell ⟨wd.heap.size, 3, none⟩ (.int .i64 t)).setCell ⟨wd.heap.size, 4, none⟩ (.int .i64 u)).setCell ⟨wd.heap.size, 5, none⟩ (.int .i64 nn)).setCell ⟨wd.heap.size, 6, none⟩ (.slice a l.length cap)).setCell ⟨wd.heap.size, 7, none⟩ (.int .u64 0)) = w3 at *
    generalize hm : wd.heap.size = m at *
    have HMid : Hid (∃ o3, RMid w0 w w3 o o3 c r S m t u [.int .i64 W, .int .i64 (ps.length : Int), .int .u64 sum, .int .i64 t, .int .i64 u, .int .i64 nn, .slice a l.length cap, .int .u64 0]) := ⟨_, HMid2⟩
    clear hm HMid1 HMid2 HL2 HT2 HLx
  all_goals
    refine tree_done ?_
    clear l0 l2 t0 t1 ne
    obtain ⟨o3, hmid⟩ := HMid.out
    have HM3 : Hid (RMid w0 w w3 o o3 c r S m t u [.int .i64 W, .int .i64 (ps.length : Int), .int .u64 sum, .int .i64 t, .int .i64 u, .int .i64 nn, .slice a l.length cap, .int .u64 0]) := hmid
    clear hmid HMid HTd HZd HLd HBd HMd HMa
    have HK3 : Hid (Kp0 w3 o3 (.slice a l.length cap) l) := HKX.out.mv HM3.out.mv (by have := HC.out; simp; omega)
    have HG3 : Hid (RLogIs w3 o3 j lx W p es) := HLg.out.mv HM3.out.mv (by have := HC.out; simp; omega) (by have h1 := HC.out; have h2 := HFr.out.2.2; simp; omega)
    have c0 := HM3.out.box.cell 0 _ rfl; have c1 := HM3.out.box.cell 1 _ rfl; have c2 := HM3.out.box.cell 2 _ rfl; have c3 := HM3.out.box.cell 3 _ rfl; have c4 := HM3.out.box.cell 4 _ rfl; have c5 := HM3.out.box.cell 5 _ rfl; have c6 := HM3.out.box.cell 6 _ rfl; have c7 := HM3.out.box.cell 7 _ rfl
    have s0 := HM3.out.st.cell 0 _ rfl; have s1 := HM3.out.st.cell 1 _ rfl
    go_wp2_with (first
      | (go_at_call 47; go_must (refine (HRT.out w3 HK3.out.1).mono ?_; rintro q w4 ⟨rfl, hb4⟩; have HB4 : Hid (Below w3.heap.size w3 w4) := hb4; clear hb4; have S4 := HM3.out.st.below HB4.out; have s40 := S4.cell 0 _ rfl; have s41 := S4.cell 1 _ rfl; have Z4 := HM3.out.res.below HB4.out; have z0 := Z4.cell 0 _ rfl; have z1 := Z4.cell 1 _ rfl; have z2 := Z4.cell 2 _ rfl; have z3 := Z4.cell 3 _ rfl; have z4 := Z4.cell 4 _ rfl; have z5 := Z4.cell 5 _ rfl; have z6 := Z4.cell 6 _ rfl; have z7 := Z4.cell 7 _ rfl; have f0 := Z4.frozen 0; have f1 := Z4.frozen 1; have f2 := Z4.frozen 2; have f3 := Z4.frozen 3; have f4 := Z4.frozen 4; have f5 := Z4.frozen 5; have f6 := Z4.frozen 6; have f7 := Z4.frozen 7; clear S4 Z4))
      | (go_at_call 48; go_must (refine (HLT.out w4 (newTo o3 w3 0) (HG3.out.below HB4.out)).mono ?_; rintro q w5 ⟨rfl, hb5⟩; have HB5 : Hid (Below w3.heap.size w3 w5) := bnext HB4.out hb5; clear hb5 z0 z1 z2 z3 z4 z5 z6 z7 f0 f1 f2 f3 f4 f5 f6 f7; have Z5 := HM3.out.res.below HB5.out; have z0 := Z5.cell 0 _ rfl; have z1 := Z5.cell 1 _ rfl; have z2 := Z5.cell 2 _ rfl; have z3 := Z5.cell 3 _ rfl; have z4 := Z5.cell 4 _ rfl; have z5 := Z5.cell 5 _ rfl; have z6 := Z5.cell 6 _ rfl; have z7 := Z5.cell 7 _ rfl; have f0 := Z5.frozen 0; have f1 := Z5.frozen 1; have f2 := Z5.frozen 2; have f3 := Z5.frozen 3; have f4 := Z5.frozen 4; have f5 := Z5.frozen 5; have f6 := Z5.frozen 6; have f7 := Z5.frozen 7; have X5 := HM3.out.box.below HB5.out; have x0 := X5.cell 0 _ rfl; have x1 := X5.cell 1 _ rfl; have x2 := X5.cell 2 _ rfl; have x3 := X5.cell 3 _ rfl; have x4 := X5.cell 4 _ rfl; have x5 := X5.cell 5 _ rfl; have x6 := X5.cell 6 _ rfl; have x7 := X5.cell 7 _ rfl; clear Z5 X5)))
    refine bodyPost_ret (v := .tuple #[.agg #[.int .i64 0, .int .i64 0, .int .u64 0, .int .i64 0, .int .i64 0, .int .i64 0, .slice none 0 0, .int .u64 0], .int .i64 2]) ?_ rfl ⟨rfl, ?_⟩
    · rw [results_cell_tmp rfl]
      go_simp
    · have G := grown_set8 w5 (w.heap.size + 1) (.int .i64 0) (.int .i64 0) (.int .u64 0) (.int .i64 0) (.int .i64 0) (.int .i64 0) (.slice none 0 0) (.int .u64 0)
      have hr' : newTo o3 w3 0 (w.heap.size + 1) = c := by rw [newTo_old HM3.out.res.lt]; exact HM3.out.reso
      have M : Mv [c] w5 (newTo o3 w3 0) _ (newTo o3 w3 0) := ⟨G.os, G.tape, G.output, G.size, fun _ _ => rfl, fun k hk hn => G.block k hk (fun e => hn (by have := Option.some.inj e; subst this; rw [hr']; simp))⟩
      have h8 := HC.out
      exact ⟨_, (HM3.out.orc.below HB5.out).mv M (by simp; omega) (by simp; omega), ((HM3.out.mv.trans (Mv.of_below 0 HB5.out)).trans (M.widen (by simp))).restrict HFr.out.2.1⟩
end

section
set_option linter.unusedVariables false
set_option linter.unusedSimpArgs false
set_option synthInstance.maxSize 20000
set_option maxHeartbeats 2000000
set_option maxRecDepth 20000
open Go.RowKit Go.Maps

theorem rissue_ok {w0 w : World} {o : Nat → Nat} {j lx r : Nat} {T S : St} {W p : Int} {es : List Ent} {sum s t u nn : Int} {l : List Int} {x : Value} (h : RIss w0 w o j lx r T S W p es sum s t u nn l x) (hr : rightB (candE W ⟨es, sum⟩ t u nn l) = true) (hlt : laterB es (candE W ⟨es, sum⟩ t u nn l) = true) :
    Calls Try.prog 20 #[ptr lx, ptr r, .int .u64 s, .agg #[.int .i64 t, .int .i64 u], .int .i64 nn, x] w fun q w' => ∃ e, e = (signM S s (candE W ⟨es, sum⟩ t u nn l)).1 ∧ q = .returned (.tuple #[ev e x, .int .i64 0]) ∧ ∃ o', ROrc w0 w' o' r (signM S s (candE W ⟨es, sum⟩ t u nn l)).2 ∧ RLogIs w' o' j lx W p (es ++ [e]) ∧ Mv [8, j] w o w' o' := by
  obtain ⟨c, hc1, hc8, hcf⟩ := fresh_owner w o (j + 8)
  have okc : EOk (candE W ⟨es, sum⟩ t u nn l) := by
    obtain ⟨v, ps, hA⟩ := h.log
    refine ⟨hA.hW, ?_, h.hsum, h.ht, h.hu, h.hn, ?_, h.rd.1.oct⟩
    · have := h.short; unfold I64 candE; dsimp only; omega
    · unfold U64 candE; dsimp only; omega
  have hlenS : S.rows.length ≤ T.rows.length + 1 := by have := headM_len T es; rw [h.head] at this; exact this
  have HE := fun (w' : World) (o' : Nat → Nat) (hl : RLogIs w' o' j lx W p es) (ho : ROrc w0 w' o' r T) => (show Calls Try.prog 41 #[ptr lx, ptr r] w' fun q w'' => q = .returned (.agg #[.int .i64 W, .int .i64 (es.length : Int), .int .u64 sum]) ∧ ∃ o'', ROrc w0 w'' o'' r S ∧ Mv [8] w' o' w'' o'' from by
    have := rhead_any hl ho h.j8 h.last (by have := h.few; omega)
    rw [h.head] at this
    exact this)
  have RT := fun (w' : World) (hr' : Rd w' x l) => refrightE_any (candE W ⟨es, sum⟩ t u nn l) x w' hr'
  rw [hr] at RT
  have LT := fun (w' : World) (o' : Nat → Nat) (hl : RLogIs w' o' j lx W p es) => rlate_any hl (candE W ⟨es, sum⟩ t u nn l)
  rw [hlt] at LT
  have hsg : S.sign s (textL (candE W ⟨es, sum⟩ t u nn l)) = (((S.get (.sig s (textL (candE W ⟨es, sum⟩ t u nn l)))).1, 0), (S.get (.sig s (textL (candE W ⟨es, sum⟩ t u nn l)))).2) := by unfold St.sign; rw [if_pos h.sec]
  have SG := fun (w' : World) (o' : Nat → Nat) (ho : ROrc w0 w' o' r S) (hr' : Rd w' x l) => (show Calls Try.prog 49 #[ptr r, .int .u64 s, ev (candE W ⟨es, sum⟩ t u nn l) x] w' fun q w'' => q = .returned (.tuple #[ev { candE W ⟨es, sum⟩ t u nn l with g := (S.get (.sig s (textL (candE W ⟨es, sum⟩ t u nn l)))).1 } x, .int .i64 0]) ∧ ∃ o'', ROrc w0 w'' o'' r (S.get (.sig s (textL (candE W ⟨es, sum⟩ t u nn l)))).2 ∧ Mv [8] w' o' w'' o'' from by
    obtain ⟨fr, sb, hR, h1, h2, h3⟩ := ho
    have := rsignE_yes ⟨w0, sb⟩ w' r fr S hR (by have := h.few; omega) s (candE W ⟨es, sum⟩ t u nn l) x okc hr' hr (by rw [hsg])
    rw [hsg] at this
    refine this.mono ?_
    rintro q w'' ⟨rfl, ks, hks, hl⟩
    exact ⟨rfl, rorc_step hR h1 h2 h3 hks hl⟩)
  have okg := get_ne (x := .sig s (textL (candE W ⟨es, sum⟩ t u nn l))) (S := S) (by
    obtain ⟨fr, sb, hR, _⟩ := h.orc
    have hg := hR.good
    have hh := h.head
    unfold headM at hh
    split at hh
    · cases hh; exact hg
    · rename_i f hf
      have := congrArg Prod.snd hh
      dsimp only at this
      rw [← this]
      obtain ⟨v, ps, hA⟩ := h.log
      have hes := hA.es
      rw [← hes] at hf
      obtain ⟨nv, y, _, h2⟩ := getLast_map hf
      exact get_good hg (by have := h.few; omega) (bytes_oct' (hA.ents _ (List.mem_of_getElem? h2)).1).2) (by have := h.few; omega) (show WhatOk _ from ⟨(at_ok (S := S) (by
    obtain ⟨fr, sb, hR, _⟩ := h.orc
    have hg := hR.good
    have hh := h.head
    unfold headM at hh
    split at hh
    · cases hh; exact hg
    · rename_i f hf
      have := congrArg Prod.snd hh
      dsimp only at this
      rw [← this]
      obtain ⟨v, ps, hA⟩ := h.log
      have hes := hA.es
      rw [← hes] at hf
      obtain ⟨nv, y, _, h2⟩ := getLast_map hf
      exact get_good hg (by have := h.few; omega) (bytes_oct' (hA.ents _ (List.mem_of_getElem? h2)).1).2) h.sec).1, (bytes_oct' okc).1⟩)
  have okE : EOk { candE W ⟨es, sum⟩ t u nn l with g := (S.get (.sig s (textL (candE W ⟨es, sum⟩ t u nn l)))).1 } := ⟨okc.1, okc.2.1, okc.2.2.1, okc.2.2.2.1, okc.2.2.2.2.1, okc.2.2.2.2.2.1, okg.2, okc.2.2.2.2.2.2.2⟩
  have AE := fun (wd w5 : World) (o' : Nat → Nat) (v v' : Value) (ps : List (Ent × Value)) (hA : RLogAt wd o' j lx W p es v ps) (hy : Kp0 wd o' x l) ob h5 h6 h7 => rlog_add (w := wd) (w5 := w5) (v' := v') (e := { candE W ⟨es, sum⟩ t u nn l with g := (S.get (.sig s (textL (candE W ⟨es, sum⟩ t u nn l)))).1 }) hA h.j0 okE hy h.short ob h5 h6 h7
  have O1 : ∀ u' ∈ flatE [({ candE W ⟨es, sum⟩ t u nn l with g := (S.get (.sig s (textL (candE W ⟨es, sum⟩ t u nn l)))).1 }, x)], u'.oneCell' = true := (ents_one (w := w) (o := o) okE h.rd).one
  unfold signM
  generalize S.get (.sig s (textL (candE W ⟨es, sum⟩ t u nn l))) = tt at *
  obtain ⟨g, S'⟩ := tt
  dsimp only at *
  have HLg : Hid (RLogIs w o j lx W p es) := h.log
  have HO0 : Hid (ROrc w0 w o r T) := h.orc
  have HKX : Hid (Kp0 w o x l) := h.rd
  have HFr : Hid (j + 8 < c ∧ (∀ k, k < w.heap.size → o k ≠ c) ∧ j ≠ 8 ∧ j ≠ 0) := ⟨hc8, hcf, h.j8, h.j0⟩
  obtain ⟨v, ps, hA⟩ := h.log
  have hlen : es.length = ps.length := hA.len
  obtain ⟨av, cv', rfl, hcv1, hcv2, _⟩ := hA.row.slice
  unfold maxLen at hcv2
  have hblk := hA.blk
  have hown := hA.own
  have h200 : ¬ (200 : Int) ≤ ps.length := by have := h.short; omega
  have HShort : Hid (ps.length < 200) := (show ps.length < 200 from by have := h.short; omega)
  obtain ⟨a, cap, hxx⟩ := h.rd.1.len
  subst hxx
  clear hA hcf okc
  simp only [candE, hlen] at *
  unfold ev at *
  dsimp only at *
  have HHE : Hid (∀ (w' : World) (o' : Nat → Nat), RLogIs w' o' j lx W p es → ROrc w0 w' o' r T → Calls Try.prog 41 #[ptr lx, ptr r] w' fun q w'' => q = .returned (.agg #[.int .i64 W, .int .i64 (ps.length : Int), .int .u64 sum]) ∧ ∃ o'', ROrc w0 w'' o'' r S ∧ Mv [8] w' o' w'' o'') := HE
  have HRT : Hid (∀ (w' : World), Rd w' (.slice a l.length cap) l → Calls Try.prog 47 #[.agg #[.int .i64 W, .int .i64 (ps.length : Int), .int .u64 sum, .int .i64 t, .int .i64 u, .int .i64 nn, .slice a l.length cap, .int .u64 0]] w' fun q w'' => q = .returned (.bool true) ∧ Below w'.heap.size w' w'') := RT
  have HLT : Hid (∀ (w' : World) (o' : Nat → Nat), RLogIs w' o' j lx W p es → Calls Try.prog 48 #[ptr lx, .agg #[.int .i64 t, .int .i64 u]] w' fun q w'' => q = .returned (.bool (!true)) ∧ Below w'.heap.size w' w'') := LT
  have HSG : Hid (∀ (w' : World) (o' : Nat → Nat), ROrc w0 w' o' r S → Rd w' (.slice a l.length cap) l → Calls Try.prog 49 #[ptr r, .int .u64 s, .agg #[.int .i64 W, .int .i64 (ps.length : Int), .int .u64 sum, .int .i64 t, .int .i64 u, .int .i64 nn, .slice a l.length cap, .int .u64 0]] w' fun q w'' => q = .returned (.tuple #[.agg #[.int .i64 W, .int .i64 (ps.length : Int), .int .u64 sum, .int .i64 t, .int .i64 u, .int .i64 nn, .slice a l.length cap, .int .u64 g], .int .i64 0]) ∧ ∃ o'', ROrc w0 w'' o'' r S' ∧ Mv [8] w' o' w'' o'') := SG
  have HAE : Hid (∀ (wd w5 : World) (o' : Nat → Nat) (v v' : Value) (ps' : List (Ent × Value)), RLogAt wd o' j lx W p es v ps' → Kp0 wd o' (.slice a l.length cap) l → ∀ ob : Obj, (wd.alloc ob).grownBy w5 v.ownBlock → OwnC w5 v' (ps' ++ [((⟨W, (ps.length : Int), sum, t, u, nn, l, g⟩ : Ent), (.slice a l.length cap : Value))]).length (flatE (ps' ++ [((⟨W, (ps.length : Int), sum, t, u, nn, l, g⟩ : Ent), (.slice a l.length cap : Value))])) → (∀ k, v'.ownBlock = some k → v.ownBlock = some k ∨ (wd.alloc ob).heap.size ≤ k) →
      ∃ o'', RLogIs (w5.setCell ⟨lx, 2, none⟩ v') o'' j lx W p (es ++ [(⟨W, (ps.length : Int), sum, t, u, nn, l, g⟩ : Ent)]) ∧ Mv [j] wd o' (w5.setCell ⟨lx, 2, none⟩ v') o'') := AE
  have HO1 : Hid (∀ u' ∈ flatE [((⟨W, (ps.length : Int), sum, t, u, nn, l, g⟩ : Ent), (.slice a l.length cap : Value))], u'.oneCell' = true) := O1
  have HR1 : Hid (∀ (w' : World), RowE (w'.alloc (.cells #[.int .i64 W, .int .i64 (ps.length : Int), .int .u64 sum, .int .i64 t, .int .i64 u, .int .i64 nn, .slice a l.length cap, .int .u64 g] 47)) (.slice (some ⟨w'.heap.size, 0, none⟩) 1 1) [((⟨W, (ps.length : Int), sum, t, u, nn, l, g⟩ : Ent), .slice a l.length cap)]) := fun w' => rowE_one w' (⟨W, (ps.length : Int), sum, t, u, nn, l, g⟩ : Ent) _
  obtain ⟨w1, hw1⟩ : ∃ w1, w1 = (w.alloc (.cells #[.int .i64 t, .int .i64 u] 45)).alloc (.cells #[.int .i64 0, .int .i64 0, .int .u64 0, .int .i64 0, .int .i64 0, .int .i64 0, .slice none 0 0, .int .u64 0] 47) := ⟨_, rfl⟩
  have HB1 : Hid (Below w.heap.size w w1) := by show Below _ _ _; rw [hw1]; exact balloc (balloc (Below.refl _ _) _) _
  have HT1 : Hid (Blk w1 w.heap.size 45 [.int .i64 t, .int .i64 u]) := by show Blk _ _ _ _; rw [hw1]; exact (blk_new w [.int .i64 t, .int .i64 u] 45).alloc _
  have HZ1 : Hid (Blk w1 (w.heap.size + 1) 47 [.int .i64 0, .int .i64 0, .int .u64 0, .int .i64 0, .int .i64 0, .int .i64 0, .slice none 0 0, .int .u64 0]) := by
    show Blk _ _ _ _
    rw [hw1]
    have := blk_new (w.alloc (.cells #[.int .i64 t, .int .i64 u] 45)) [.int .i64 0, .int .i64 0, .int .u64 0, .int .i64 0, .int .i64 0, .int .i64 0, .slice none 0 0, .int .u64 0] 47
    simpa using this
  have HL1 : Hid (Blk w1 lx 42 [.int .i64 W, .int .u64 p, .slice av ps.length cv']) := (show Blk _ _ _ _ from hblk.below HB1.out)
  have HEl : Hid (es.length < 200) := h.short
  have HLo : Hid (o lx = j ∧ lx < w.heap.size) := ⟨hown, hblk.lt⟩
  have q3 := ((hblk.alloc (.cells #[.int .i64 t, .int .i64 u] 45)).alloc (.cells #[.int .i64 0, .int .i64 0, .int .u64 0, .int .i64 0, .int .i64 0, .int .i64 0, .slice none 0 0, .int .u64 0] 47)).cell 2 _ rfl
  clear h hblk hown HE RT LT SG AE O1 okg okE hsg
  go_enter Try.func20, Try.ntmps20
  go_upto_region 3 with fail
  rw [← hw1]
  clear hw1 q3
  obtain ⟨n0, hn0⟩ : ∃ n0, n0 = w.heap.size := ⟨_, rfl⟩
  have HN0 : Hid (n0 = w.heap.size) := hn0
  have HBd : Hid (Below w.heap.size w w1.drew) := HB1.out.drew
  have HTd : Hid (Blk w1.drew w.heap.size 45 [.int .i64 t, .int .i64 u]) := HT1.out
  have HZd : Hid (Blk w1.drew (w.heap.size + 1) 47 [.int .i64 0, .int .i64 0, .int .u64 0, .int .i64 0, .int .i64 0, .int .i64 0, .slice none 0 0, .int .u64 0]) := HZ1.out
  have HLd : Hid (Blk w1.drew lx 42 [.int .i64 W, .int .u64 p, .slice av ps.length cv']) := HL1.out
  have l0 := fun z : WIn (fun w' => Blk w' lx 42 [.int .i64 W, .int .u64 p, .slice av ps.length cv'] ∧ Blk w' w.heap.size 45 [.int .i64 t, .int .i64 u]) => z.ok.1.cell 0 _ rfl
  have l2 := fun z : WIn (fun w' => Blk w' lx 42 [.int .i64 W, .int .u64 p, .slice av ps.length cv'] ∧ Blk w' w.heap.size 45 [.int .i64 t, .int .i64 u]) => z.ok.1.cell 2 _ rfl
  have t0 := fun z : WIn (fun w' => Blk w' lx 42 [.int .i64 W, .int .u64 p, .slice av ps.length cv'] ∧ Blk w' w.heap.size 45 [.int .i64 t, .int .i64 u]) => z.ok.2.cell 0 _ rfl
  have t1 := fun z : WIn (fun w' => Blk w' lx 42 [.int .i64 W, .int .u64 p, .slice av ps.length cv'] ∧ Blk w' w.heap.size 45 [.int .i64 t, .int .i64 u]) => z.ok.2.cell 1 _ rfl
  have ne : Nonempty (WIn (fun w' => Blk w' lx 42 [.int .i64 W, .int .u64 p, .slice av ps.length cv'] ∧ Blk w' w.heap.size 45 [.int .i64 t, .int .i64 u])) := ⟨⟨w1, HL1.out, HT1.out⟩⟩
  refine wp_region_tree (C := fun w' => ∃ z : WIn (fun w' => Blk w' lx 42 [.int .i64 W, .int .u64 p, .slice av ps.length cv'] ∧ Blk w' w.heap.size 45 [.int .i64 t, .int .i64 u]), w' = z.w)
    (.still 0 (.still 1 (.still 2 (.still 3 (.still 4 (.still 5 (.still 6 (.still 7 (.still 8 (.still 9 (.still 10 (.still 13 (.still 14 (.still 15 (.two 11 (.still 12 (.still 16 (.one 17 (.one 18 .done)))) 17 (.one 11 (.still 12 (.still 16 (.one 18 .done)))))))))))))))))))
    (by kernel_rfl) (by kernel_rfl) ⟨⟨w1.drew, HLd.out, HTd.out⟩, rfl⟩ ?_
  clear HB1 HT1 HZ1 HL1
  generalize w1.drew = wd at *
  have HMd : Hid (Mv [] w o wd (newTo o w c)) := Mv.of_below c HBd.out
  have HMa : Hid (Mv [] w o (wd.alloc (.cells #[.int .i64 0, .int .i64 0, .int .u64 0, .int .i64 0, .int .i64 0, .int .i64 0, .slice none 0 0, .int .u64 0] 47)) (newTo o w c)) := Mv.of_below c (balloc HBd.out _)
  have HC : Hid (c ≠ 8 ∧ c ≠ 0 ∧ c ≠ j) := (show _ ∧ _ ∧ _ from by have := HFr.out.1; exact ⟨by omega, by omega, by omega⟩)
  iterate 14 (refine tree_still rfl rfl ?_; go_big_quiet_step (fail); refine wpQuiet_nil ?_)
  refine tree_two rfl rfl rfl rfl ?wayA ?wayB
  case' wayA =>
    go_simp
    refine (HHE.out wd (newTo o w c) (HLg.out.mv HMd.out (by simp) (by simp)) (HO0.out.mv HMd.out (by simp) (by simp))).mono ?_
    rintro q w2 ⟨rfl, o2, hO2, hM2⟩
    have HMid0 := rmid_A (cells := [.int .i64 W, .int .i64 (ps.length : Int), .int .u64 sum, .int .i64 t, .int .i64 u, .int .i64 nn, .slice a l.length cap, .int .u64 0]) (t := t) (u := u) HBd.out HTd.out HZd.out HC.out.1 HC.out.2.1 hO2 hM2
    have HL2 : Hid (Blk w2 lx 42 [.int .i64 W, .int .u64 p, .slice av ps.length cv']) := (show Blk _ _ _ _ from HLd.out.block (hM2.block lx HLd.out.lt (by rw [newTo_old HLo.out.2, HLo.out.1]; have := HFr.out.2.2.1; simp; omega)))
    have HT2 : Hid (Blk w2 w.heap.size 45 [.int .i64 t, .int .i64 u]) := (show Blk _ _ _ _ from HTd.out.block (hM2.block _ HTd.out.lt (by rw [newTo_new (Nat.le_refl _)]; have := HC.out.1; simp; omega)))
    have HMid1 : Hid (RMid w0 w (w2.alloc (.cells #[.int .i64 W, .int .i64 (ps.length : Int), .int .u64 sum, .int .i64 t, .int .i64 u, .int .i64 nn, .slice a l.length cap, .int .u64 0] 47)) o (newTo o2 w2 c) c r S w2.heap.size t u [.int .i64 W, .int .i64 (ps.length : Int), .int .u64 sum, .int .i64 t, .int .i64 u, .int .i64 nn, .slice a l.length cap, .int .u64 0]) := HMid0
    clear hO2 hM2 HMid0
    refine ⟨⟨⟨w2, HL2.out, HT2.out⟩, rfl⟩, ?_⟩
    iterate 2 (refine tree_still rfl rfl ?_; go_big_quiet_step (fail); refine wpQuiet_nil ?_)
    refine tree_one rfl rfl ?_
    go_simp
    refine ⟨⟨⟨_, HL2.out.alloc _, HT2.out.alloc _⟩, rfl⟩, ?_⟩
    refine tree_one rfl rfl ?_
    go_simp
    refine ⟨⟨⟨_, HL2.out.alloc _, HT2.out.alloc _⟩, rfl⟩, ?_⟩
    generalize hw3 : w2.alloc (.cells #[.int .i64 W, .int .i64 (ps.length : Int), .int .u64 sum, .int .i64 t, .int .i64 u, .int .i64 nn, .slice a l.length cap, .int .u64 0] 47) = w3
    generalize hm : w2.heap.size = m
    have HMid : Hid (∃ o3, RMid w0 w w3 o o3 c r S m t u [.int .i64 W, .int .i64 (ps.length : Int), .int .u64 sum, .int .i64 t, .int .i64 u, .int .i64 nn, .slice a l.length cap, .int .u64 0]) := ⟨_, (show RMid w0 w w3 o _ c r S m t u [.int .i64 W, .int .i64 (ps.length : Int), .int .u64 sum, .int .i64 t, .int .i64 u, .int .i64 nn, .slice a l.length cap, .int .u64 0] from by rw [← hw3, ← hm]; exact HMid1.out)⟩
    clear hw3 hm HMid1 HL2 HT2
  case' wayB =>
    go_simp
    refine ⟨⟨⟨_, HLd.out.alloc _, HTd.out.alloc _⟩, rfl⟩, ?_⟩
    refine tree_one rfl rfl ?_
    go_simp
    refine (HHE.out (wd.alloc (.cells #[.int .i64 0, .int .i64 0, .int .u64 0, .int .i64 0, .int .i64 0, .int .i64 0, .slice none 0 0, .int .u64 0] 47)) (newTo o w c) (HLg.out.mv HMa.out (by simp) (by simp)) (HO0.out.mv HMa.out (by simp) (by simp))).mono ?_
    rintro q w2 ⟨rfl, o2, hO2, hM2⟩
    have HMid0 := rmid_B (t := t) (u := u) (x0 := .int .i64 W) (x1 := .int .i64 (ps.length : Int)) (x2 := .int .u64 sum) (x3 := .int .i64 t) (x4 := .int .i64 u) (x5 := .int .i64 nn) (x6 := .slice a l.length cap) (x7 := .int .u64 0) HBd.out HTd.out HZd.out HC.out.1 HC.out.2.1 hO2 hM2
    have HL2 : Hid (Blk w2 lx 42 [.int .i64 W, .int .u64 p, .slice av ps.length cv']) := (show Blk _ _ _ _ from (HLd.out.alloc _).block (hM2.block lx (HLd.out.alloc _).lt (by rw [newTo_old HLo.out.2, HLo.out.1]; have := HFr.out.2.2.1; simp; omega)))
    have HT2 : Hid (Blk w2 w.heap.size 45 [.int .i64 t, .int .i64 u]) := (show Blk _ _ _ _ from (HTd.out.alloc _).block (hM2.block _ (HTd.out.alloc _).lt (by rw [newTo_new (Nat.le_refl _)]; have := HC.out.1; simp; omega)))
    have HMid1 : Hid (Blk w2 wd.heap.size 47 [.int .i64 0, .int .i64 0, .int .u64 0, .int .i64 0, .int .i64 0, .int .i64 0, .slice none 0 0, .int .u64 0] ∧ RMid w0 w _ o o2 c r S wd.heap.size t u [.int .i64 W, .int .i64 (ps.length : Int), .int .u64 sum, .int .i64 t, .int .i64 u, .int .i64 nn, .slice a l.length cap, .int .u64 0]) := HMid0
    have HLx : Hid (lx ≠ wd.heap.size ∧ w.heap.size ≠ wd.heap.size) := (show _ ∧ _ from ⟨by have := HLd.out.lt; omega, by have := HTd.out.lt; omega⟩)
    clear hO2 hM2 HMid0
    refine ⟨⟨⟨w2, HL2.out, HT2.out⟩, rfl⟩, ?_⟩
    iterate 2 (refine tree_still rfl rfl ?_; go_big_quiet_step (fail); refine wpQuiet_nil ?_)
    have Z2 := HMid1.out.1
    have z0 := Z2.cell 0 _ rfl; have z1 := Z2.cell 1 _ rfl; have z2 := Z2.cell 2 _ rfl; have z3 := Z2.cell 3 _ rfl; have z4 := Z2.cell 4 _ rfl; have z5 := Z2.cell 5 _ rfl; have z6 := Z2.cell 6 _ rfl; have z7 := Z2.cell 7 _ rfl; have f0 := Z2.frozen 0; have f1 := Z2.frozen 1; have f2 := Z2.frozen 2; have f3 := Z2.frozen 3; have f4 := Z2.frozen 4; have f5 := Z2.frozen 5; have f6 := Z2.frozen 6; have f7 := Z2.frozen 7
    clear Z2
    refine tree_one rfl rfl ?_
    go_simp
    have G8 := grown_set8 w2 wd.heap.size (.int .i64 W) (.int .i64 (ps.length : Int)) (.int .u64 sum) (.int .i64 t) (.int .i64 u) (.int .i64 nn) (.slice a l.length cap) (.int .u64 0)
    refine ⟨⟨⟨_, HL2.out.past G8 HLx.out.1, HT2.out.past G8 HLx.out.2⟩, rfl⟩, ?_⟩
    clear z0 z1 z2 z3 z4 z5 z6 z7 f0 f1 f2 f3 f4 f5 f6 f7 G8
    have HMid2 := HMid1.out.2
    generalize ((((((((w2.setCell ⟨wd.heap.size, 0, none⟩ (.int .i64 W)).setCell ⟨wd.heap.size, 1, none⟩ (.int .i64 (ps.length : Int))).setCell ⟨wd.heap.size, 2, none⟩ (.int .u64 sum)).setCell ⟨wd.heap.size, 3, none⟩ (.int .i64 t)).setCell ⟨wd.heap.size, 4, none⟩ (.int .i64 u)).setCell ⟨wd.heap.size, 5, none⟩ (.int .i64 nn)).setCell ⟨wd.heap.size, 6, none⟩ (.slice a l.length cap)).setCell ⟨wd.heap.size, 7, none⟩ (.int .u64 0)) = w3 at *
    generalize hm : wd.heap.size = m at *
    have HMid : Hid (∃ o3, RMid w0 w w3 o o3 c r S m t u [.int .i64 W, .int .i64 (ps.length : Int), .int .u64 sum, .int .i64 t, .int .i64 u, .int .i64 nn, .slice a l.length cap, .int .u64 0]) := ⟨_, HMid2⟩
    clear hm HMid1 HMid2 HL2 HT2 HLx
  all_goals
    refine tree_done ?_
    clear l0 l2 t0 t1 ne
    obtain ⟨o3, hmid⟩ := HMid.out
    have HM3 : Hid (RMid w0 w w3 o o3 c r S m t u [.int .i64 W, .int .i64 (ps.length : Int), .int .u64 sum, .int .i64 t, .int .i64 u, .int .i64 nn, .slice a l.length cap, .int .u64 0]) := hmid
    clear hmid HMid HTd HZd HLd HBd HMd HMa
    have HK3 : Hid (Kp0 w3 o3 (.slice a l.length cap) l) := HKX.out.mv HM3.out.mv (by have := HC.out; simp; omega)
    have HG3 : Hid (RLogIs w3 o3 j lx W p es) := HLg.out.mv HM3.out.mv (by have := HC.out; simp; omega) (by have h1 := HC.out; have h2 := HFr.out.2.2; simp; omega)
    have c0 := HM3.out.box.cell 0 _ rfl; have c1 := HM3.out.box.cell 1 _ rfl; have c2 := HM3.out.box.cell 2 _ rfl; have c3 := HM3.out.box.cell 3 _ rfl; have c4 := HM3.out.box.cell 4 _ rfl; have c5 := HM3.out.box.cell 5 _ rfl; have c6 := HM3.out.box.cell 6 _ rfl; have c7 := HM3.out.box.cell 7 _ rfl
    have s0 := HM3.out.st.cell 0 _ rfl; have s1 := HM3.out.st.cell 1 _ rfl
    go_upto_region 11 with (first
      | (go_at_call 47; go_must (refine (HRT.out w3 HK3.out.1).mono ?_; rintro q w4 ⟨rfl, hb4⟩; have HB4 : Hid (Below w3.heap.size w3 w4) := hb4; clear hb4; have S4 := HM3.out.st.below HB4.out; have s40 := S4.cell 0 _ rfl; have s41 := S4.cell 1 _ rfl; have Z4 := HM3.out.res.below HB4.out; have z0 := Z4.cell 0 _ rfl; have z1 := Z4.cell 1 _ rfl; have z2 := Z4.cell 2 _ rfl; have z3 := Z4.cell 3 _ rfl; have z4 := Z4.cell 4 _ rfl; have z5 := Z4.cell 5 _ rfl; have z6 := Z4.cell 6 _ rfl; have z7 := Z4.cell 7 _ rfl; have f0 := Z4.frozen 0; have f1 := Z4.frozen 1; have f2 := Z4.frozen 2; have f3 := Z4.frozen 3; have f4 := Z4.frozen 4; have f5 := Z4.frozen 5; have f6 := Z4.frozen 6; have f7 := Z4.frozen 7; clear S4 Z4))
      | (go_at_call 48; go_must (refine (HLT.out w4 (newTo o3 w3 0) (HG3.out.below HB4.out)).mono ?_; rintro q w5 ⟨rfl, hb5⟩; have HB5 : Hid (Below w3.heap.size w3 w5) := bnext HB4.out hb5; clear hb5 z0 z1 z2 z3 z4 z5 z6 z7 f0 f1 f2 f3 f4 f5 f6 f7; have Z5 := HM3.out.res.below HB5.out; have z0 := Z5.cell 0 _ rfl; have z1 := Z5.cell 1 _ rfl; have z2 := Z5.cell 2 _ rfl; have z3 := Z5.cell 3 _ rfl; have z4 := Z5.cell 4 _ rfl; have z5 := Z5.cell 5 _ rfl; have z6 := Z5.cell 6 _ rfl; have z7 := Z5.cell 7 _ rfl; have f0 := Z5.frozen 0; have f1 := Z5.frozen 1; have f2 := Z5.frozen 2; have f3 := Z5.frozen 3; have f4 := Z5.frozen 4; have f5 := Z5.frozen 5; have f6 := Z5.frozen 6; have f7 := Z5.frozen 7; have X5 := HM3.out.box.below HB5.out; have x0 := X5.cell 0 _ rfl; have x1 := X5.cell 1 _ rfl; have x2 := X5.cell 2 _ rfl; have x3 := X5.cell 3 _ rfl; have x4 := X5.cell 4 _ rfl; have x5 := X5.cell 5 _ rfl; have x6 := X5.cell 6 _ rfl; have x7 := X5.cell 7 _ rfl; clear Z5 X5))
      | (go_at_call 49; go_must (refine (HSG.out w5 (newTo o3 w3 0) (HM3.out.orc.below HB5.out) (HK3.out.1.below HB5.out)).mono ?_; rintro q w6 ⟨rfl, o6, hO6, hM6⟩; have HO6 : Hid (ROrc w0 w6 o6 r S') := hO6; have HM6 : Hid (Mv [8] w5 (newTo o3 w3 0) w6 o6) := hM6; clear hO6 hM6)))
    clear z0 z1 z2 z3 z4 z5 z6 z7 f0 f1 f2 f3 f4 f5 f6 f7 x0 x1 x2 x3 x4 x5 x6 x7 c0 c1 c2 c3 c4 c5 c6 c7 s0 s1 s40 s41
    have HMw6 : Hid (Mv [c, 8] w o w6 o6) := (show Mv _ _ _ _ _ from (HM3.out.mv.trans (Mv.of_below 0 HB5.out)).trans (HM6.out.widen (by simp)))
    have HZ6 : Hid (Blk w6 (w.heap.size + 1) 47 [.int .i64 0, .int .i64 0, .int .u64 0, .int .i64 0, .int .i64 0, .int .i64 0, .slice none 0 0, .int .u64 0] ∧ o6 (w.heap.size + 1) = c) := (show _ ∧ _ from by
      have h1 := HM3.out.res.below HB5.out
      have h2 : newTo o3 w3 0 (w.heap.size + 1) = c := by rw [newTo_old HM3.out.res.lt]; exact HM3.out.reso
      exact ⟨h1.block (HM6.out.block _ h1.lt (by rw [h2]; have := HC.out.1; simp; omega)), by rw [HM6.out.ext _ h1.lt]; exact h2⟩)
    clear HM6 HB5 HB4 HG3 HK3 HHE HRT HLT HSG
    obtain ⟨w7, hw7⟩ : ∃ w7, w7 = w6.alloc (.cells #[.int .i64 W, .int .i64 (ps.length : Int), .int .u64 sum, .int .i64 t, .int .i64 u, .int .i64 nn, .slice a l.length cap, .int .u64 g] 47) := ⟨_, rfl⟩
    have HB7 : Hid (Below w6.heap.size w6 w7) := by show Below _ _ _; rw [hw7]; exact balloc (Below.refl _ _) _
    have HX7 : Hid (Blk w7 w6.heap.size 47 [.int .i64 W, .int .i64 (ps.length : Int), .int .u64 sum, .int .i64 t, .int .i64 u, .int .i64 nn, .slice a l.length cap, .int .u64 g]) := by show Blk _ _ _ _; rw [hw7]; exact blk_new w6 [.int .i64 W, .int .i64 (ps.length : Int), .int .u64 sum, .int .i64 t, .int .i64 u, .int .i64 nn, .slice a l.length cap, .int .u64 g] 47
    rw [← hw7]
    obtain ⟨n7, hn7⟩ : ∃ n7, n7 = w6.heap.size := ⟨_, rfl⟩
    rw [← hn7] at HX7 ⊢
    have HN7 : Hid (n7 = w6.heap.size) := hn7
    clear hw7 hn7
    have HXd : Hid (Blk w7.drew n7 47 [.int .i64 W, .int .i64 (ps.length : Int), .int .u64 sum, .int .i64 t, .int .i64 u, .int .i64 nn, .slice a l.length cap, .int .u64 g]) := HX7.out
    have HMd : Hid (Mv [c, 8] w o w7.drew (newTo o6 w6 c)) := mv_drew (HMw6.out.trans (Mv.of_below c HB7.out))
    have HNo : Hid ((newTo o6 w6 c) n7 = c) := newTo_new (by have := HN7.out; omega)
    have HOd : Hid (ROrc w0 w7.drew (newTo o6 w6 c) r S') := (HO6.out.mv (Mv.of_below (I := []) c HB7.out) (by simp) (by simp)).mv (mv_drewn (I := []) w7 _) (by simp) (by simp)
    have HZd : Hid (Blk w7.drew (w.heap.size + 1) 47 [.int .i64 0, .int .i64 0, .int .u64 0, .int .i64 0, .int .i64 0, .int .i64 0, .slice none 0 0, .int .u64 0] ∧ (newTo o6 w6 c) (w.heap.size + 1) = c ∧ w.heap.size + 1 < n7) := (show _ ∧ _ ∧ _ from ⟨HZ6.out.1.below HB7.out.drew, by rw [newTo_old HZ6.out.1.lt]; exact HZ6.out.2, by have := HZ6.out.1.lt; have := HN7.out; omega⟩)
    generalize newTo o6 w6 c = od at *
    have HKd : Hid (Kp0 w7.drew od (.slice a l.length cap) l) := HKX.out.mv HMd.out (by have := HC.out; simp; omega)
    obtain ⟨v5, ps5, hA⟩ := HLg.out.mv HMd.out (by have := HC.out; simp; omega) (by have h1 := HC.out; have h2 := HFr.out.2.2; simp; omega)
    have HAd : Hid (RLogAt w7.drew od j lx W p es v5 ps5) := hA
    obtain ⟨av5, cv5, hvv, hcv5, _⟩ := hA.row.slice
    subst hvv
    clear hA
    have HLe : Hid (ps5.length < 200) := (show ps5.length < 200 from by have h1 := HAd.out.len; have h2 : es.length < 200 := HEl.out; omega)
    have k0 := fun z : WIn (fun w' => Blk w' n7 47 [.int .i64 W, .int .i64 (ps.length : Int), .int .u64 sum, .int .i64 t, .int .i64 u, .int .i64 nn, .slice a l.length cap, .int .u64 g]) => z.ok.cell 0 _ rfl
    have k1 := fun z : WIn (fun w' => Blk w' n7 47 [.int .i64 W, .int .i64 (ps.length : Int), .int .u64 sum, .int .i64 t, .int .i64 u, .int .i64 nn, .slice a l.length cap, .int .u64 g]) => z.ok.cell 1 _ rfl
    have k2 := fun z : WIn (fun w' => Blk w' n7 47 [.int .i64 W, .int .i64 (ps.length : Int), .int .u64 sum, .int .i64 t, .int .i64 u, .int .i64 nn, .slice a l.length cap, .int .u64 g]) => z.ok.cell 2 _ rfl
    have k3 := fun z : WIn (fun w' => Blk w' n7 47 [.int .i64 W, .int .i64 (ps.length : Int), .int .u64 sum, .int .i64 t, .int .i64 u, .int .i64 nn, .slice a l.length cap, .int .u64 g]) => z.ok.cell 3 _ rfl
    have k4 := fun z : WIn (fun w' => Blk w' n7 47 [.int .i64 W, .int .i64 (ps.length : Int), .int .u64 sum, .int .i64 t, .int .i64 u, .int .i64 nn, .slice a l.length cap, .int .u64 g]) => z.ok.cell 4 _ rfl
    have k5 := fun z : WIn (fun w' => Blk w' n7 47 [.int .i64 W, .int .i64 (ps.length : Int), .int .u64 sum, .int .i64 t, .int .i64 u, .int .i64 nn, .slice a l.length cap, .int .u64 g]) => z.ok.cell 5 _ rfl
    have k6 := fun z : WIn (fun w' => Blk w' n7 47 [.int .i64 W, .int .i64 (ps.length : Int), .int .u64 sum, .int .i64 t, .int .i64 u, .int .i64 nn, .slice a l.length cap, .int .u64 g]) => z.ok.cell 6 _ rfl
    have k7 := fun z : WIn (fun w' => Blk w' n7 47 [.int .i64 W, .int .i64 (ps.length : Int), .int .u64 sum, .int .i64 t, .int .i64 u, .int .i64 nn, .slice a l.length cap, .int .u64 g]) => z.ok.cell 7 _ rfl
    have ne : Nonempty (WIn (fun w' => Blk w' n7 47 [.int .i64 W, .int .i64 (ps.length : Int), .int .u64 sum, .int .i64 t, .int .i64 u, .int .i64 nn, .slice a l.length cap, .int .u64 g])) := ⟨⟨w7.drew, HXd.out⟩⟩
    refine wp_region_tree (C := fun w' => ∃ z : WIn (fun w' => Blk w' n7 47 [.int .i64 W, .int .i64 (ps.length : Int), .int .u64 sum, .int .i64 t, .int .i64 u, .int .i64 nn, .slice a l.length cap, .int .u64 g]), w' = z.w)
      (.still 0 (.still 1 (.still 2 (.still 3 (.still 5 (.two 4 (.one 6 (.one 7 (.still 8 (.still 9 (.one 10 .done))))) 6 (.one 4 (.one 7 (.still 8 (.still 9 (.one 10 .done)))))))))))
      (by kernel_rfl) (by kernel_rfl) ⟨⟨w7.drew, HXd.out⟩, rfl⟩ ?_
    clear HX7 HB7 HMw6 HO6 HZ6
    generalize w7.drew = wd at *
    have q2 := HAd.out.blk.cell 2 _ rfl
    have r2 := (HAd.out.blk.alloc (.cells #[.int .i64 W, .int .i64 (ps.length : Int), .int .u64 sum, .int .i64 t, .int .i64 u, .int .i64 nn, .slice a l.length cap, .int .u64 g] 47)).cell 2 _ rfl
    have HRow : Hid (OwnC (wd.alloc (.cells #[.int .i64 W, .int .i64 (ps.length : Int), .int .u64 sum, .int .i64 t, .int .i64 u, .int .i64 nn, .slice a l.length cap, .int .u64 g] 47)) (.slice av5 ps5.length cv5) ps5.length (flatE ps5)) := (HAd.out.mv (Mv.of_below (I := []) 0 (balloc (Below.refl _ _) _)) (by simp) (by simp)).row
    have HNl : Hid (n7 ≠ lx) := fun e => by have h1 := HNo.out; rw [e, HAd.out.own] at h1; exact HC.out.2.2 h1.symm
    have HNr : Hid (∀ k, (Value.slice av5 ps5.length cv5).ownBlock = some k → n7 = k → False) := fun k hk e => by have h1 := HNo.out; rw [e, (HAd.out.rowOwn k hk).1] at h1; exact HC.out.2.2 h1.symm
    have HZl : Hid (w.heap.size + 1 ≠ lx ∧ ∀ k, (Value.slice av5 ps5.length cv5).ownBlock = some k → w.heap.size + 1 ≠ k) := (show _ ∧ _ from ⟨fun e => by have h1 := HZd.out.2.1; rw [e, HAd.out.own] at h1; exact HC.out.2.2 h1.symm, fun k hk e => by have h1 := HZd.out.2.1; rw [e, (HAd.out.rowOwn k hk).1] at h1; exact HC.out.2.2 h1.symm⟩)
    iterate 5 (refine tree_still rfl rfl ?_; go_big_quiet_step (fail); refine wpQuiet_nil ?_)
  iterate 2
    all_goals try refine tree_two rfl rfl rfl rfl ?_ ?_
  all_goals
    go_simp
    refine ⟨⟨⟨_, by first | exact HXd.out | exact HXd.out.alloc _⟩, rfl⟩, ?_⟩
    refine tree_one rfl rfl ?_
    go_simp
    refine ⟨⟨⟨_, HXd.out.alloc _⟩, rfl⟩, ?_⟩
    refine tree_one rfl rfl ?_
    refine wp_of_list rfl ?_
    refine wpList_append_c rfl (.tmp 64) (.tmp 66) rfl (.slice av5 ps5.length cv5) ps5 rfl HRow.out ⟨wd.heap.size, 0, none⟩ 1 ((⟨W, (ps.length : Int), sum, t, u, nn, l, g⟩ : Ent), .slice a l.length cap) rfl (HR1.out wd) HO1.out (by have := HLe.out; omega) ?_
    intro v' w8 hrow hg hwh
    have HE := HAE.out wd w8 od _ v' ps5 HAd.out HKd.out _ hg hrow hwh
    obtain ⟨av', cv2, hv', _⟩ := hrow.slice
    subst hv'
    have HX8 : Hid (Blk w8 n7 47 [.int .i64 W, .int .i64 (ps.length : Int), .int .u64 sum, .int .i64 t, .int .i64 u, .int .i64 nn, .slice a l.length cap, .int .u64 g]) := (show Blk _ _ _ _ from (HXd.out.alloc _).past' hg (fun e => HNr.out n7 e rfl))
    have HZ8 : Hid (Blk w8 (w.heap.size + 1) 47 [.int .i64 0, .int .i64 0, .int .u64 0, .int .i64 0, .int .i64 0, .int .i64 0, .slice none 0 0, .int .u64 0]) := (show Blk _ _ _ _ from (HZd.out.1.alloc _).past' hg (fun e => HZl.out.2 _ e rfl))
    have B5 := (HAd.out.blk.alloc (.cells #[.int .i64 W, .int .i64 (ps.length : Int), .int .u64 sum, .int .i64 t, .int .i64 u, .int .i64 nn, .slice a l.length cap, .int .u64 g] 47)).past' hg (fun e => (HAd.out.rowOwn lx e).2 rfl)
    have b2 := B5.cell 2 _ rfl
    have g2 := B5.frozen 2
    clear B5 hrow hg hwh
    generalize (ps5 ++ [((⟨W, (ps.length : Int), sum, t, u, nn, l, g⟩ : Ent), (.slice a l.length cap : Value))]).length = N5 at *
    have HE' : Hid (∃ o'', RLogIs (w8.setCell ⟨lx, 2, none⟩ (.slice av' N5 cv2)) o'' j lx W p (es ++ [(⟨W, (ps.length : Int), sum, t, u, nn, l, g⟩ : Ent)]) ∧ Mv [j] wd od (w8.setCell ⟨lx, 2, none⟩ (.slice av' N5 cv2)) o'') := HE
    clear HE
    refine ⟨rfl, ⟨⟨w8, HX8.out⟩, rfl⟩, ?_⟩
    go_simp
    iterate 2 (refine tree_still rfl rfl ?_; go_big_quiet_step (fail); refine wpQuiet_nil ?_)
    refine tree_one rfl rfl ?_
    go_simp
    have HX9 : Hid (Blk (w8.setCell ⟨lx, 2, none⟩ (.slice av' N5 cv2)) n7 47 [.int .i64 W, .int .i64 (ps.length : Int), .int .u64 sum, .int .i64 t, .int .i64 u, .int .i64 nn, .slice a l.length cap, .int .u64 g]) := (show Blk _ _ _ _ from HX8.out.past (grown_setCell _ _ _ _) HNl.out)
    have HZ9 : Hid (Blk (w8.setCell ⟨lx, 2, none⟩ (.slice av' N5 cv2)) (w.heap.size + 1) 47 [.int .i64 0, .int .i64 0, .int .u64 0, .int .i64 0, .int .i64 0, .int .i64 0, .slice none 0 0, .int .u64 0]) := (show Blk _ _ _ _ from HZ8.out.past (grown_setCell _ _ _ _) HZl.out.1)
    refine ⟨⟨⟨_, HX9.out⟩, rfl⟩, ?_⟩
    refine tree_done ?_
    clear k0 k1 k2 k3 k4 k5 k6 k7 ne b2 g2 q2 r2
    generalize w8.setCell ⟨lx, 2, none⟩ (.slice av' N5 cv2) = w9 at *
    have c0 := HX9.out.cell 0 _ rfl; have c1 := HX9.out.cell 1 _ rfl; have c2 := HX9.out.cell 2 _ rfl; have c3 := HX9.out.cell 3 _ rfl; have c4 := HX9.out.cell 4 _ rfl; have c5 := HX9.out.cell 5 _ rfl; have c6 := HX9.out.cell 6 _ rfl; have c7 := HX9.out.cell 7 _ rfl; have z0 := HZ9.out.cell 0 _ rfl; have z1 := HZ9.out.cell 1 _ rfl; have z2 := HZ9.out.cell 2 _ rfl; have z3 := HZ9.out.cell 3 _ rfl; have z4 := HZ9.out.cell 4 _ rfl; have z5 := HZ9.out.cell 5 _ rfl; have z6 := HZ9.out.cell 6 _ rfl; have z7 := HZ9.out.cell 7 _ rfl; have f0 := HZ9.out.frozen 0; have f1 := HZ9.out.frozen 1; have f2 := HZ9.out.frozen 2; have f3 := HZ9.out.frozen 3; have f4 := HZ9.out.frozen 4; have f5 := HZ9.out.frozen 5; have f6 := HZ9.out.frozen 6; have f7 := HZ9.out.frozen 7
    go_wp2
    refine bodyPost_ret (v := .tuple #[.agg #[.int .i64 W, .int .i64 (ps.length : Int), .int .u64 sum, .int .i64 t, .int .i64 u, .int .i64 nn, .slice a l.length cap, .int .u64 g], .int .i64 0]) ?_ rfl ⟨_, rfl, rfl, ?_⟩
    · rw [results_cell_tmp rfl]
      go_simp
    · obtain ⟨o9, h1, h2⟩ := HE'.out
      have G := grown_set8 w9 (w.heap.size + 1) (.int .i64 W) (.int .i64 (ps.length : Int)) (.int .u64 sum) (.int .i64 t) (.int .i64 u) (.int .i64 nn) (.slice a l.length cap) (.int .u64 g)
      have hr' : o9 (w.heap.size + 1) = c := by rw [h2.ext _ HZd.out.1.lt]; exact HZd.out.2.1
      have M : Mv [c] w9 o9 _ o9 := ⟨G.os, G.tape, G.output, G.size, fun _ _ => rfl, fun k hk hn => G.block k hk (fun e => hn (by have := Option.some.inj e; subst this; rw [hr']; simp))⟩
      have h8 := HC.out
      have h9 := HFr.out.2.2
      exact ⟨o9, (HOd.out.mv h2 (by simp; omega) (by simp; omega)).mv M (by simp; omega) (by simp; omega), h1.mv M (by simp; omega) (by simp; omega), (((HMd.out.widen (J := [c, 8, j]) (by simp)).trans (h2.widen (by simp))).trans (M.widen (by simp))).restrict HFr.out.2.1⟩

theorem rissue_no {w0 w : World} {o : Nat → Nat} {j lx r : Nat} {T S : St} {W p : Int} {es : List Ent} {sum s t u nn : Int} {l : List Int} {x : Value} (h : RIss w0 w o j lx r T S W p es sum s t u nn l x) (hk : issueK ⟨es, sum⟩ (candE W ⟨es, sum⟩ t u nn l) ≠ 0) :
    Calls Try.prog 20 #[ptr lx, ptr r, .int .u64 s, .agg #[.int .i64 t, .int .i64 u], .int .i64 nn, x] w fun q w' => q = .returned (.tuple #[ev zeroE (.slice none 0 0), .int .i64 (issueK ⟨es, sum⟩ (candE W ⟨es, sum⟩ t u nn l))]) ∧ ∃ o', ROrc w0 w' o' r S ∧ Mv [8] w o w' o' := by
  have hs : ¬ 200 ≤ (⟨es, sum⟩ : Lg).es.length := by have := h.short; show ¬ 200 ≤ es.length; omega
  have hI : issueK ⟨es, sum⟩ (candE W ⟨es, sum⟩ t u nn l) = firstK [unl (rightB (candE W ⟨es, sum⟩ t u nn l)) 1, unl (laterB es (candE W ⟨es, sum⟩ t u nn l)) 2] := by unfold issueK; rw [if_neg hs]
  rw [hI] at hk ⊢
  cases hr : rightB (candE W ⟨es, sum⟩ t u nn l) with
  | false => exact rissue_bad h hr
  | true =>
    cases hl : laterB es (candE W ⟨es, sum⟩ t u nn l) with
    | false => exact rissue_late h hr hl
    | true =>
      rw [hr, hl] at hk
      exact absurd rfl hk
theorem rissue_yes {w0 w : World} {o : Nat → Nat} {j lx r : Nat} {T S : St} {W p : Int} {es : List Ent} {sum s t u nn : Int} {l : List Int} {x : Value} (h : RIss w0 w o j lx r T S W p es sum s t u nn l x) (hk : issueK ⟨es, sum⟩ (candE W ⟨es, sum⟩ t u nn l) = 0) :
    Calls Try.prog 20 #[ptr lx, ptr r, .int .u64 s, .agg #[.int .i64 t, .int .i64 u], .int .i64 nn, x] w fun q w' => ∃ e, e = (signM S s (candE W ⟨es, sum⟩ t u nn l)).1 ∧ q = .returned (.tuple #[ev e x, .int .i64 0]) ∧ ∃ o', ROrc w0 w' o' r (signM S s (candE W ⟨es, sum⟩ t u nn l)).2 ∧ RLogIs w' o' j lx W p (es ++ [e]) ∧ Mv [8, j] w o w' o' := by
  have := (issueK_zero _ _).1 hk
  exact rissue_ok h ((rightB_iff _).2 this.2.1) this.2.2
end

section
set_option linter.unusedVariables false
set_option linter.unusedSimpArgs false
set_option synthInstance.maxSize 20000
set_option maxHeartbeats 2000000
set_option maxRecDepth 20000
open Go.RowKit Go.Maps

theorem same_log {w0 w : World} {o : Nat → Nat} {ja la b jx lx r : Nat} {W p : Int} {L : Lg} {T S : St} (hL : LogIs w o ja la b W p L) (hX : RLogIs w o jx lx W p L.es) (hO : ROrc w0 w o r T) (hh : headM T L.es = (L.sum, S)) (hlast : ∀ f, L.es.getLast? = some f → rightB f = true) (hja : ja ≠ 0 ∧ ja ≠ 8) (hjx : jx ≠ 0 ∧ jx ≠ 8) (hN : T.rows.length + 1 ≤ 100000) :
    Calls Try.prog 18 #[ptr la, ptr lx, ptr r] w fun q w' => q = .returned (.bool true) ∧ ∃ o', ROrc w0 w' o' r S ∧ Mv [8] w o w' o' := by
  have HL0 : Hid (LogIs w o ja la b W p L) := hL
  have HX0 : Hid (RLogIs w o jx lx W p L.es) := hX
  have HO0 : Hid (ROrc w0 w o r T) := hO
  have HJ : Hid (ja ≠ 0 ∧ ja ≠ 8 ∧ jx ≠ 0 ∧ jx ≠ 8) := ⟨hja.1, hja.2, hjx.1, hjx.2⟩
  have HHd := fun (w' : World) (o' : Nat → Nat) (h1 : RLogIs w' o' jx lx W p L.es) (h2 : ROrc w0 w' o' r T) => rhead_any h1 h2 hjx.2 hlast hN
  rw [hh] at HHd
  obtain ⟨v, ps, hA⟩ := hX
  have hlen : L.es.length = ps.length := hA.len
  obtain ⟨av, cv', rfl, hcv1, hcv2, _⟩ := hA.row.slice
  have HA0 : Hid (RLogAt w o jx lx W p L.es (.slice av ps.length cv') ps) := hA
  have HLn := fun (w' : World) (o' : Nat → Nat) (h1 : LogIs w' o' ja la b W p L) => lenL_any h1
  have HHp := fun (w' : World) (o' : Nat → Nat) (h1 : LogIs w' o' ja la b W p L) => headL_any h1
  unfold hdV at HHp
  have HAl := fun (w' : World) (o' : Nat → Nat) (h1 : LogIs w' o' ja la b W p L) => allL_any h1
  rw [hlen] at HHd
  simp only [hlen] at HLn HHp
  clear hL hO hh hlast hja hjx hA hcv2
  generalize hsum : L.sum = sum at *
  have HHd' : Hid (∀ (w' : World) (o' : Nat → Nat), RLogIs w' o' jx lx W p L.es → ROrc w0 w' o' r T → Calls Try.prog 41 #[ptr lx, ptr r] w' fun q w'' => q = .returned (.agg #[.int .i64 W, .int .i64 (ps.length : Int), .int .u64 sum]) ∧ ∃ o'', ROrc w0 w'' o'' r S ∧ Mv [8] w' o' w'' o'') := HHd
  have HLn' : Hid (∀ (w' : World) (o' : Nat → Nat), LogIs w' o' ja la b W p L → Calls Try.prog 32 #[ptr la] w' fun q w'' => q = .returned (.int .i64 (ps.length : Int)) ∧ w'' = w') := HLn
  have HHp' : Hid (∀ (w' : World) (o' : Nat → Nat), LogIs w' o' ja la b W p L → Calls Try.prog 33 #[ptr la] w' fun q w'' => q = .returned (.agg #[.int .i64 W, .int .i64 (ps.length : Int), .int .u64 sum]) ∧ Below w'.heap.size w' w'') := HHp
  have HAl' : Hid (∀ (w' : World) (o' : Nat → Nat), LogIs w' o' ja la b W p L → Calls Try.prog 35 #[ptr la] w' fun r w'' => ∃ v' ps', r = .returned v' ∧ ps'.map (·.1) = L.es ∧ RowE w'' v' ps' ∧ Ents w'' (newTo o' w' 0) ps' ∧ Below w'.heap.size w' w'' ∧ (∀ k, v'.ownBlock = some k → w'.heap.size ≤ k)) := HAl
  clear HHd HLn HHp HAl hlen hsum
  go_enter Try.func18, Try.ntmps18
  go_upto_region 1 with fail
  have HMd : Hid (Mv [] w o w.drew o) := mv_drewn w o
  have l2 := fun z : WIn (fun w' => Blk w' lx 42 [.int .i64 W, .int .u64 p, .slice av ps.length cv']) => z.ok.cell 2 _ rfl
  have ne : Nonempty (WIn (fun w' => Blk w' lx 42 [.int .i64 W, .int .u64 p, .slice av ps.length cv'])) := ⟨⟨w, HA0.out.blk⟩⟩
  refine wp_region_ord (C := fun w' => ∃ z : WIn (fun w' => Blk w' lx 42 [.int .i64 W, .int .u64 p, .slice av ps.length cv']), w' = z.w) [(false, 0), (false, 2), (false, 3), (false, 4), (false, 5), (false, 6), (true, 1), (false, 7), (false, 8), (false, 9), (false, 11), (false, 12), (true, 10), (true, 13), (false, 14), (false, 15), (false, 16), (false, 17), (false, 19), (false, 20), (false, 21), (false, 22), (true, 18), (true, 23), (false, 24), (false, 25)] (by kernel_rfl) (by kernel_rfl) ⟨⟨w.drew, HA0.out.blk⟩, rfl⟩ ?_
  have HLd : Hid (LogIs w.drew o ja la b W p L) := HL0.out.mv HMd.out (by simp) (by simp)
  have HOd : Hid (ROrc w0 w.drew o r T) := HO0.out.mv HMd.out (by simp) (by simp)
  have HAd : Hid (RLogAt w.drew o jx lx W p L.es (.slice av ps.length cv') ps) := HA0.out.mv HMd.out (by simp) (by simp)
  generalize w.drew = wd at *
  iterate 6 (refine ord_still rfl rfl ?_; go_big_quiet_step (fail); refine wpQuiet_nil ?_)
  refine ord_mem rfl rfl ?_
  go_simp
  refine (HLn'.out wd o HLd.out).mono ?_
  rintro q w1 ⟨rfl, hw1⟩
  subst hw1
  refine ⟨⟨⟨_, HAd.out.blk⟩, rfl⟩, ?_⟩
  iterate 5 (refine ord_still rfl rfl ?_; go_big_quiet_step (fail); refine wpQuiet_nil ?_)
  refine ord_mem rfl rfl ?_
  go_simp
  refine (HHp'.out _ o HLd.out).mono ?_
  rintro q w2 ⟨rfl, hb2⟩
  have HM2 : Hid (Mv [8] w o w2 (newTo o w1 0)) := (show Mv _ _ _ _ _ from (HMd.out.widen (by simp)).trans (Mv.of_below 0 hb2))
  have HL2 : Hid (LogIs w2 (newTo o w1 0) ja la b W p L) := HLd.out.mv (Mv.of_below (I := []) 0 hb2) (by simp) (by simp)
  have HO2 : Hid (ROrc w0 w2 (newTo o w1 0) r T) := HOd.out.below hb2
  have HA2 : Hid (RLogAt w2 (newTo o w1 0) jx lx W p L.es (.slice av ps.length cv') ps) := HAd.out.mv (Mv.of_below (I := []) 0 hb2) (by simp) (by simp)
  clear hb2
  generalize newTo o w1 0 = o2 at *
  refine ⟨⟨⟨w2, HA2.out.blk⟩, rfl⟩, ?_⟩
  refine ord_mem rfl rfl ?_
  go_simp
  refine (HHd'.out w2 o2 ⟨_, _, HA2.out⟩ HO2.out).mono ?_
  rintro q w3 ⟨rfl, o3, hO3, hM3⟩
  have h8 := HJ.out
  have HO3 : Hid (ROrc w0 w3 o3 r S) := hO3
  have HM3 : Hid (Mv [8] w o w3 o3) := (show Mv _ _ _ _ _ from HM2.out.trans hM3)
  have HL3 : Hid (LogIs w3 o3 ja la b W p L) := HL2.out.mv hM3 (by simp) (by simp; omega)
  have HA3 : Hid (RLogAt w3 o3 jx lx W p L.es (.slice av ps.length cv') ps) := HA2.out.mv hM3 (by simp) (by simp; omega)
  clear hO3 hM3 h8
  refine ⟨⟨⟨w3, HA3.out.blk⟩, rfl⟩, ?_⟩
  iterate 8 (refine ord_still rfl rfl ?_; go_big_quiet_step (fail); refine wpQuiet_nil ?_)
  refine ord_mem rfl rfl ?_
  go_simp
  refine (HAl'.out w3 o3 HL3.out).mono ?_
  rintro q w4 ⟨v', ps', rfl, he, hr, hE, hb4, _⟩
  have HA4 : Hid (RLogAt w4 (newTo o3 w3 0) jx lx W p L.es (.slice av ps.length cv') ps) := HA3.out.mv (Mv.of_below (I := []) 0 hb4) (by simp) (by simp)
  have HB4 : Hid (Below w3.heap.size w3 w4) := hb4
  have HSm : Hid (Calls Try.prog 15 #[v', .slice av ps.length cv'] w4 fun r w' => r = .returned (.bool true) ∧ Below w4.heap.size w4 w') := refall_eq hr hE (rowE_c HA4.out.row) HA4.out.ents (by rw [he, HA4.out.es])
  clear he hr hE hb4
  refine ⟨⟨⟨w4, HA4.out.blk⟩, rfl⟩, ?_⟩
  refine ord_mem rfl rfl ?_
  go_simp
  refine (Calls.mono HSm.out ?_)
  rintro q w5 ⟨rfl, hb5⟩
  have HB5 : Hid (Below w3.heap.size w3 w5) := bnext HB4.out hb5
  refine ⟨⟨⟨w5, HA4.out.blk.below hb5⟩, rfl⟩, ?_⟩
  iterate 2 (refine ord_still rfl rfl ?_; go_big_quiet_step (fail); refine wpQuiet_nil ?_)
  refine ord_end ?_
  go_wp2
  go_ret
  exact ⟨rfl, _, HO3.out.below HB5.out, HM3.out.trans (Mv.of_below 0 HB5.out)⟩
end
end Go.Proofs.Yteedjdflojfhmaa
