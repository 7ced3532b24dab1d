/-
  The program's reader of a change.
-/
import Derived.Test.YtgoghmabhdkdjaaBkR
namespace Go.Proofs.Ytgoghmabhdkdjaa
set_option linter.unusedVariables false
set_option linter.unusedSimpArgs false
set_option synthInstance.maxSize 20000
set_option maxHeartbeats 2000000
set_option maxRecDepth 20000
open Go.RowKit Go.Maps

theorem gset (w : World) (b i : Nat) (u : Value) : w.grownBy (w.setCell ⟨b, i, none⟩ u) (some b) := ⟨rfl, rfl, rfl, by simp, fun j _ hne => Below.heap_setCell _ _ _ _ (fun e => hne (by rw [e]))⟩
theorem noB_set {vs : List Value} {u : Value} (h : ∀ x ∈ vs, noB x = true) (hu : noB u = true) (i : Nat) : ∀ x ∈ vs.set i u, noB x = true := fun x hx => by
  rcases List.mem_or_eq_of_mem_set hx with r | r
  · exact h x r
  · rw [r]; exact hu
theorem Rd.setX {w : World} {v : Value} {l : List Int} {c : Nat} {e : TypeId} {vs : List Value} (h : Rd w v l) (hX : Blk w c e vs) (hn : ∀ u ∈ vs, noB u = true) (i : Nat) (u : Value) : Rd (w.setCell ⟨c, i, none⟩ u) v l := h.pastX hX hn (gset w c i u)
theorem CgAt.setX {w : World} {c : Cg} {a b : Value} {qs : List Wq} {g : Nat} {e : TypeId} {vs : List Value} (h : CgAt w c a b qs) (hX : Blk w g e vs) (hn : ∀ u ∈ vs, noB u = true) (ha : ∀ j, a.ownBlock = some j → j ≠ g) (i : Nat) (u : Value) : CgAt (w.setCell ⟨g, i, none⟩ u) c a b qs :=
  ⟨h.row.blocks (fun j hj _ => Below.heap_setCell _ _ _ _ (ha j hj)), fun q hq => (h.rd q hq).setX hX hn i u, h.ok, h.ws, h.old.setX hX hn i u, h.k, h.w, h.p, h.l⟩
/-- The reader's blocks: the box of the reader, the result, the variable. -/
structure ChSt (w w3 : World) (rb bc : Nat) (l : List Int) (k : Int) (vs rs : List Value) : Prop where
  box : Blk w3 w.heap.size 104 [ptr rb]
  res : Blk w3 (w.heap.size + 1) 38 rs
  var : Blk w3 bc 38 vs
  bc : w.heap.size + 2 ≤ bc
  nv : ∀ u ∈ vs, noB u = true
  nr : ∀ u ∈ rs, noB u = true
  rdr : Rdr w3 rb l k
  grow : w.grownBy w3 (some rb)
  rb : rb < w.heap.size
theorem ChSt.call {w w3 w4 : World} {rb bc : Nat} {l l' : List Int} {k k' : Int} {vs rs : List Value} (h : ChSt w w3 rb bc l k vs rs) (hr : Rdr w4 rb l' k') (hg : w3.grownBy w4 (some rb)) : ChSt w w4 rb bc l' k' vs rs := by
  have h1 := h.rb
  have h2 := h.bc
  exact ⟨h.box.block (hg.block _ h.box.lt (fun e => by have := Option.some.inj e; omega)), h.res.block (hg.block _ h.res.lt (fun e => by have := Option.some.inj e; omega)), h.var.block (hg.block _ h.var.lt (fun e => by have := Option.some.inj e; omega)), h2, h.nv, h.nr, hr, grown_trans h.grow hg (fun _ e => .inl e), h1⟩
theorem ChSt.setV {w w3 : World} {rb bc : Nat} {l : List Int} {k : Int} {vs rs : List Value} (h : ChSt w w3 rb bc l k vs rs) (i : Nat) (u : Value) (hu : noB u = true) : ChSt w (w3.setCell ⟨bc, i, none⟩ u) rb bc l k (vs.set i u) rs := by
  have h1 := h.rb
  have h2 := h.bc
  exact ⟨h.box.other _ _ (by omega), h.res.other _ _ (by omega), h.var.set i u, h2, noB_set h.nv hu i, h.nr, h.rdr.pastX h.var h.nv (gset _ _ _ _) (by omega), grown_trans h.grow (gset w3 bc i u) (fun j e => .inr (by have := Option.some.inj e; omega)), h1⟩
theorem ChSt.setR {w w3 : World} {rb bc : Nat} {l : List Int} {k : Int} {vs rs : List Value} (h : ChSt w w3 rb bc l k vs rs) (i : Nat) (u : Value) (hu : noB u = true) : ChSt w (w3.setCell ⟨w.heap.size + 1, i, none⟩ u) rb bc l k vs (rs.set i u) := by
  have h1 := h.rb
  have h2 := h.bc
  exact ⟨h.box.other _ _ (by omega), h.res.set i u, h.var.other _ _ (by omega), h2, h.nv, noB_set h.nr hu i, h.rdr.pastX h.res h.nr (gset _ _ _ _) (by omega), grown_trans h.grow (gset w3 (w.heap.size + 1) i u) (fun j e => .inr (by have := Option.some.inj e; omega)), h1⟩
theorem ChSt.drew {w w3 : World} {rb bc : Nat} {l : List Int} {k : Int} {vs rs : List Value} (h : ChSt w w3 rb bc l k vs rs) : ChSt w w3.drew rb bc l k vs rs :=
  ⟨h.box, h.res, h.var, h.bc, h.nv, h.nr, ⟨h.rdr.left, h.rdr.wrong, h.rdr.f0, h.rdr.f1, h.rdr.two, h.rdr.gone⟩, ⟨h.grow.os, h.grow.tape, h.grow.output, h.grow.size, h.grow.block⟩, h.rb⟩
/-- With the change that is read. -/
structure ChRd (w w3 : World) (rb bc : Nat) (l : List Int) (k : Int) (vs rs : List Value) (c : Cg) (a b : Value) (qs : List Wq) : Prop where
  st : ChSt w w3 rb bc l k vs rs
  cg : CgAt w3 c a b qs
  far : ∀ j, a.ownBlock = some j → bc < j
theorem ChRd.setV {w w3 : World} {rb bc : Nat} {l : List Int} {k : Int} {vs rs : List Value} {c : Cg} {a b : Value} {qs : List Wq} (h : ChRd w w3 rb bc l k vs rs c a b qs) (i : Nat) (u : Value) (hu : noB u = true) : ChRd w (w3.setCell ⟨bc, i, none⟩ u) rb bc l k (vs.set i u) rs c a b qs :=
  ⟨h.st.setV i u hu, h.cg.setX h.st.var h.st.nv (fun j hj => by have := h.far j hj; omega) i u, h.far⟩
theorem ChRd.setR {w w3 : World} {rb bc : Nat} {l : List Int} {k : Int} {vs rs : List Value} {c : Cg} {a b : Value} {qs : List Wq} (h : ChRd w w3 rb bc l k vs rs c a b qs) (i : Nat) (u : Value) (hu : noB u = true) : ChRd w (w3.setCell ⟨w.heap.size + 1, i, none⟩ u) rb bc l k vs (rs.set i u) c a b qs :=
  ⟨h.st.setR i u hu, h.cg.setX h.st.res h.st.nr (fun j hj => by have := h.far j hj; have := h.st.bc; omega) i u, h.far⟩
def z38 : List Value := [.int .i64 0, .int .i64 0, .int .u64 0, .int .i64 0, .slice none 0 0, .slice none 0 0]
theorem z38_noB : ∀ u ∈ z38, noB u = true := fun u hu => by
  simp [z38] at hu
  rcases hu with rfl | rfl | rfl | rfl | rfl | rfl <;> rfl
/-- The store of the result. -/
def put6 (w : World) (b : Nat) (v0 v1 v2 v3 v4 v5 : Value) : World := (((((w.setCell ⟨b, 0, none⟩ v0).setCell ⟨b, 1, none⟩ v1).setCell ⟨b, 2, none⟩ v2).setCell ⟨b, 3, none⟩ v3).setCell ⟨b, 4, none⟩ v4).setCell ⟨b, 5, none⟩ v5
theorem ChRd.fin {w w3 : World} {rb bc : Nat} {l : List Int} {k : Int} {vs : List Value} {c : Cg} {a b : Value} {qs : List Wq} (h : ChRd w w3 rb bc l k vs z38 c a b qs) (v0 v1 v2 v3 v4 v5 : Value) (h0 : noB v0 = true) (h1 : noB v1 = true) (h2 : noB v2 = true) (h3 : noB v3 = true) (h4 : noB v4 = true) (h5 : noB v5 = true) :
    CgAt (put6 w3 (w.heap.size + 1) v0 v1 v2 v3 v4 v5) c a b qs ∧ (∀ j, a.ownBlock = some j → w.heap.size ≤ j) ∧ Rdr (put6 w3 (w.heap.size + 1) v0 v1 v2 v3 v4 v5) rb l k ∧ w.grownBy (put6 w3 (w.heap.size + 1) v0 v1 v2 v3 v4 v5) (some rb) := by
  have H := (((((h.setR 0 v0 h0).setR 1 v1 h1).setR 2 v2 h2).setR 3 v3 h3).setR 4 v4 h4).setR 5 v5 h5
  exact ⟨H.cg, fun j hj => by have := H.far j hj; have := H.st.bc; omega, H.st.rdr, H.st.grow⟩
theorem cg_flat {w : World} {c : Cg} (hk : I64 c.k) (hw : I64 c.w) (hp : U64 c.p) (hl : I64 c.l) (h1 : c.ws = []) (h2 : c.o = []) : CgAt w c (.slice none 0 0) (.slice none 0 0) [] := by
  exact ⟨rowF_nil w, (fun q hq => by cases hq), (fun q hq => by cases hq), h1.symm, (by rw [h2]; exact rd_nil w), hk, hw, hp, hl⟩
theorem slice_noB {v : Value} (h : ∃ x n q, v = .slice x n q) : noB v = true := by
  obtain ⟨x, n, q, rfl⟩ := h
  rfl
set_option maxHeartbeats 4000000 in
theorem change52 {w : World} {rb : Nat} {l : List Int} {k : Int} (h : Rdr w rb l k) (hl : l.length ≤ 1000000) : Calls Try.prog 52 #[.agg #[ptr rb]] w fun r w' => ∃ a b qs, r = .returned (cv (readC l k).1 a b) ∧ CgAt w' (readC l k).1 a b qs ∧ (∀ j, a.ownBlock = some j → w.heap.size ≤ j) ∧ Rdr w' rb (readC l k).2.1 (readC l k).2.2 ∧ w.grownBy w' (some rb) := by
  have hlt := h.lt
  have hoct := h.oct
  have HLt : Hid (rb < w.heap.size) := hlt
  obtain ⟨w1, hw1⟩ : ∃ w1, w1 = (w.alloc (.cells #[ptr rb] 104)).alloc (.cells #[.int .i64 0, .int .i64 0, .int .u64 0, .int .i64 0, .slice none 0 0, .slice none 0 0] 38) := ⟨_, rfl⟩
  have HW1 : Hid (w1 = (w.alloc (.cells #[ptr rb] 104)).alloc (.cells #[.int .i64 0, .int .i64 0, .int .u64 0, .int .i64 0, .slice none 0 0, .slice none 0 0] 38)) := hw1
  have hg1 : w.grownBy w1 none := by rw [hw1]; exact grown_none (World.grownBy_alloc w _ none) (World.grownBy_alloc _ _ none)
  have hs1 : w1.heap.size = w.heap.size + 2 := by rw [hw1]; simp
  have hx0 : Blk w1 w.heap.size 104 [ptr rb] := by
    rw [hw1]
    exact (blk_new w [ptr rb] 104).below (balloc (Below.refl _ _) _)
  have hx1 : Blk w1 (w.heap.size + 1) 38 z38 := by
    rw [hw1]
    exact blk_newA _ z38 _ 38 _ (by simp) rfl
  have hbx : w1.cell? ⟨w.heap.size, 0, none⟩ = some (ptr rb) := hx0.cell 0 _ rfl
  obtain ⟨N, hN⟩ : ∃ N : Nat, (rCount l k 3).1 = (N : Int) := ⟨(rCount l k 3).1.toNat, by have := rCount_range l k (most := 3) (by omega); omega⟩
  have hN3 : N ≤ 3 := by have := rCount_range l k (most := 3) (by omega); omega
  obtain ⟨L0, hL0⟩ : ∃ L0, L0 = (rCount l k 3).2.1 := ⟨_, rfl⟩
  obtain ⟨K0, hK0⟩ : ∃ K0, K0 = (rCount l k 3).2.2 := ⟨_, rfl⟩
  have HLl : Hid (L0.length ≤ 1000000) := (show _ ≤ _ by rw [hL0]; have := rCount_len l k 3 hoct; omega)
  have hrc : readC l k = (if N = 1 then read1 L0 K0 else if N = 2 then read2 L0 K0 else if N = 3 then read3 L0 K0 else (⟨(N : Int), 0, 0, 0, [], []⟩, L0, K0)) := by
    unfold readC
    rw [hN, ← hL0, ← hK0]
    have e1 : ((N : Int) = 1) = (N = 1) := by simp; omega
    have e2 : ((N : Int) = 2) = (N = 2) := by simp; omega
    have e3 : ((N : Int) = 3) = (N = 3) := by simp; omega
    simp only [e1, e2, e3]
    rw [hL0, hK0]
  rw [hrc]
  have H63 : Hid (Calls Try.prog 63 #[ptr rb, .int .i64 3] w1 fun r w2 => r = .returned (.int .i64 (N : Int)) ∧ ChSt w (w2.alloc (.cells #[.int .i64 (N : Int), .int .i64 0, .int .u64 0, .int .i64 0, .slice none 0 0, .slice none 0 0] 38)) rb w2.heap.size L0 K0 [.int .i64 (N : Int), .int .i64 0, .int .u64 0, .int .i64 0, .slice none 0 0, .slice none 0 0] z38) := (show Calls _ _ _ _ _ from by
    refine (rcount_any _ rb l k 3 (h.kept hg1) (by omega)).mono ?_
    rintro r w2 ⟨rfl, h1, h2⟩
    rw [hN]
    rw [← hL0, ← hK0] at h1
    refine ⟨rfl, ?_⟩
    have hb : Below w2.heap.size w2 (w2.alloc (.cells #[.int .i64 (N : Int), .int .i64 0, .int .u64 0, .int .i64 0, .slice none 0 0, .slice none 0 0] 38)) := balloc (Below.refl _ _) _
    have y0 := hx0.block (h2.block _ hx0.lt (fun e => by have := Option.some.inj e; omega))
    have y1 := hx1.block (h2.block _ hx1.lt (fun e => by have := Option.some.inj e; omega))
    refine ⟨y0.below hb, y1.below hb, blk_newA _ _ _ 38 _ rfl rfl, by have := h2.size; omega, fun u hu => ?_, z38_noB, h1.kept (below_grown hb), grown_trans (grown_none hg1 h2) (World.grownBy_alloc w2 _ none) (fun _ e => by cases e), hlt⟩
    simp at hu
    rcases hu with rfl | rfl | rfl | rfl | rfl <;> rfl)
  clear h hlt hw1 hg1 hN hL0 hK0 hrc hoct hx0 hx1 hs1
  go_enter Try.func52, Try.ntmps52
  go_upto_region 1 with fail
  rw [← HW1.out]
  go_upto_region 2 with (go_at_call 63; go_must (refine H63.out.mono ?_; rintro r w2 ⟨rfl, h1⟩; have HSt : Hid (ChSt w (w2.alloc (.cells #[.int .i64 (N : Int), .int .i64 0, .int .u64 0, .int .i64 0, .slice none 0 0, .slice none 0 0] 38)) rb w2.heap.size L0 K0 [.int .i64 (N : Int), .int .i64 0, .int .u64 0, .int .i64 0, .slice none 0 0, .slice none 0 0] z38) := h1; clear h1))
  obtain ⟨w3, hw3⟩ : ∃ w3, w3 = w2.alloc (.cells #[.int .i64 (N : Int), .int .i64 0, .int .u64 0, .int .i64 0, .slice none 0 0, .slice none 0 0] 38) := ⟨_, rfl⟩
  obtain ⟨bc, hbc⟩ : ∃ bc, bc = w2.heap.size := ⟨_, rfl⟩
  rw [← hw3, ← hbc] at HSt ⊢
  clear hw3 hbc H63 hbx HW1
  have HBc : Hid (w.heap.size + 2 ≤ bc) := HSt.out.bc
  have ne : Nonempty (WIn (fun w' => w'.cell? ⟨w.heap.size, 0, none⟩ = some (ptr rb))) := ⟨⟨w3, HSt.out.box.cell 0 _ rfl⟩⟩
  have z0 := fun z : WIn (fun w' => w'.cell? ⟨w.heap.size, 0, none⟩ = some (ptr rb)) => z.ok
  have v0 := HSt.out.var.cell 0 _ rfl
  have HSd : Hid (ChSt w w3.drew rb bc L0 K0 [.int .i64 (N : Int), .int .i64 0, .int .u64 0, .int .i64 0, .slice none 0 0, .slice none 0 0] z38) := HSt.out.drew
  have hcs : N = 1 ∨ N = 2 ∨ N = 3 ∨ N = 0 := by omega
  clear hN3
  rcases hcs with hc | hc | hc | hc
  · subst hc
    obtain ⟨p1, hp1⟩ : ∃ p1, p1 = (rCount L0 K0 7).1 := ⟨_, rfl⟩
    obtain ⟨L1, hL1⟩ : ∃ L1, L1 = (rCount L0 K0 7).2.1 := ⟨_, rfl⟩
    obtain ⟨K1, hK1⟩ : ∃ K1, K1 = (rCount L0 K0 7).2.2 := ⟨_, rfl⟩
    obtain ⟨p2, hp2⟩ : ∃ p2 : Int, p2 = (rNum L1 K1).1 := ⟨_, rfl⟩
    obtain ⟨L2, hL2⟩ : ∃ L2, L2 = (rNum L1 K1).2.1 := ⟨_, rfl⟩
    obtain ⟨K2, hK2⟩ : ∃ K2, K2 = (rNum L1 K1).2.2 := ⟨_, rfl⟩
    have HE : Hid (read1 L0 K0 = (⟨1, p1, p2, 0, [], []⟩, L2, K2)) := (show _ = _ by rw [hp2, hL2, hK2, hp1, hL1, hK1]; rfl)
    have HI : Hid (I64 p1 ∧ U64 p2) := (show _ ∧ _ by
      have h1 := rCount_range L0 K0 (most := 7) (by omega)
      rw [← hp1] at h1
      have h2 := rnum_lt L1 K1 (by rw [hL1]; exact oct_rCount HSt.out.rdr.oct)
      unfold I64 U64
      omega)
    have H1 : Hid (Calls Try.prog 64 #[.agg #[ptr rb]] w3.drew fun r w' => r = .returned (.int .i64 p1) ∧ ChSt w w' rb bc L1 K1 [.int .i64 1, .int .i64 0, .int .u64 0, .int .i64 0, .slice none 0 0, .slice none 0 0] z38) := (show Calls _ _ _ _ _ from by
      refine (who64 HSd.out.rdr).mono ?_
      rintro r w' ⟨rfl, h1, h2⟩
      rw [← hL1, ← hK1] at h1
      rw [← hp1]
      exact ⟨rfl, HSd.out.call h1 h2⟩)
    have H2 : Hid (∀ w', ChSt w w' rb bc L1 K1 [.int .i64 1, .int .i64 0, .int .u64 0, .int .i64 0, .slice none 0 0, .slice none 0 0] z38 → Calls Try.prog 65 #[ptr rb] w' fun r w'' => r = .returned (.int .u64 p2) ∧ ChSt w w'' rb bc L2 K2 [.int .i64 1, .int .i64 0, .int .u64 0, .int .i64 0, .slice none 0 0, .slice none 0 0] z38) := fun w' hs => by
      refine (rnum_any _ _ _ _ hs.rdr).mono ?_
      rintro r w'' ⟨rfl, h1, h2⟩
      rw [← hL2, ← hK2] at h1
      rw [← hp2]
      exact ⟨rfl, hs.call h1 h2⟩
    clear hp1 hL1 hK1 hp2 hL2 hK2
    clear HSt
    go_upto_region 4 with fail
    refine wp_region_ord (C := fun w' => ∃ z : WIn (fun w' => w'.cell? ⟨w.heap.size, 0, none⟩ = some (ptr rb)), w' = z.w) [(false, 0), (false, 2), (false, 3), (true, 1), (false, 5), (true, 4), (true, 6), (false, 7), (true, 8)] (by kernel_rfl) (by kernel_rfl) ⟨⟨w3.drew, HSd.out.box.cell 0 _ rfl⟩, rfl⟩ ?_
    iterate 3 (refine ord_still rfl rfl ?_; go_big_quiet_step (fail); refine wpQuiet_nil ?_)
    refine ord_mem rfl rfl ?_
    go_simp
    refine H1.out.mono ?_
    rintro r w4 ⟨rfl, h4⟩
    have HS4 : Hid (ChSt w w4 rb bc L1 K1 [.int .i64 1, .int .i64 0, .int .u64 0, .int .i64 0, .slice none 0 0, .slice none 0 0] z38) := h4
    clear h4
    refine ⟨⟨⟨_, HS4.out.box.cell 0 _ rfl⟩, rfl⟩, ?_⟩
    go_simp
    iterate 1 (refine ord_still rfl rfl ?_; go_big_quiet_step (fail); refine wpQuiet_nil ?_)
    refine ord_mem rfl rfl ?_
    go_simp
    refine (H2.out w4 HS4.out).mono ?_
    rintro r w5 ⟨rfl, h5⟩
    have HF5 : Hid (ChRd w w5 rb bc L2 K2 [.int .i64 1, .int .i64 0, .int .u64 0, .int .i64 0, .slice none 0 0, .slice none 0 0] z38 ⟨1, p1, p2, 0, [], []⟩ (.slice none 0 0) (.slice none 0 0) []) := ⟨h5, cg_flat (by unfold I64; simp) HI.out.1 HI.out.2 (by unfold I64; simp) rfl rfl, (fun j hj => by cases hj)⟩
    clear h5
    refine ⟨⟨⟨_, HF5.out.st.box.cell 0 _ rfl⟩, rfl⟩, ?_⟩
    go_simp
    have l1 := HF5.out.st.var.cell 1 _ rfl
    have f1 := HF5.out.st.var.frozen 1
    refine ord_mem rfl rfl ?_
    go_simp
    obtain ⟨w6, hw6⟩ : ∃ w6, w6 = w5.setCell ⟨bc, 1, none⟩ (.int .i64 p1) := ⟨_, rfl⟩
    rw [← hw6]
    have HF6 : Hid (ChRd w w6 rb bc L2 K2 [.int .i64 1, .int .i64 p1, .int .u64 0, .int .i64 0, .slice none 0 0, .slice none 0 0] z38 ⟨1, p1, p2, 0, [], []⟩ (.slice none 0 0) (.slice none 0 0) []) := (by rw [hw6]; exact (show ChRd _ _ _ _ _ _ _ _ _ _ _ _ from HF5.out.setV 1 (.int .i64 p1) rfl))
    clear hw6 l1 f1
    refine ⟨⟨⟨_, HF6.out.st.box.cell 0 _ rfl⟩, rfl⟩, ?_⟩
    go_simp
    iterate 1 (refine ord_still rfl rfl ?_; go_big_quiet_step (fail); refine wpQuiet_nil ?_)
    have l2 := HF6.out.st.var.cell 2 _ rfl
    have f2 := HF6.out.st.var.frozen 2
    refine ord_mem rfl rfl ?_
    go_simp
    obtain ⟨w7, hw7⟩ : ∃ w7, w7 = w6.setCell ⟨bc, 2, none⟩ (.int .u64 p2) := ⟨_, rfl⟩
    rw [← hw7]
    have HF7 : Hid (ChRd w w7 rb bc L2 K2 [.int .i64 1, .int .i64 p1, .int .u64 p2, .int .i64 0, .slice none 0 0, .slice none 0 0] z38 ⟨1, p1, p2, 0, [], []⟩ (.slice none 0 0) (.slice none 0 0) []) := (by rw [hw7]; exact (show ChRd _ _ _ _ _ _ _ _ _ _ _ _ from HF6.out.setV 2 (.int .u64 p2) rfl))
    clear hw7 l2 f2
    refine ⟨⟨⟨_, HF7.out.st.box.cell 0 _ rfl⟩, rfl⟩, ?_⟩
    go_simp
    refine ord_end ?_
    clear z0 ne v0
    have u0 := HF7.out.st.var.cell 0 _ rfl; have u1 := HF7.out.st.var.cell 1 _ rfl; have u2 := HF7.out.st.var.cell 2 _ rfl; have u3 := HF7.out.st.var.cell 3 _ rfl; have u4 := HF7.out.st.var.cell 4 _ rfl; have u5 := HF7.out.st.var.cell 5 _ rfl
    have y0 := HF7.out.st.res.cell 0 _ rfl; have y1 := HF7.out.st.res.cell 1 _ rfl; have y2 := HF7.out.st.res.cell 2 _ rfl; have y3 := HF7.out.st.res.cell 3 _ rfl; have y4 := HF7.out.st.res.cell 4 _ rfl; have y5 := HF7.out.st.res.cell 5 _ rfl
    have x0 := HF7.out.st.res.frozen 0; have x1 := HF7.out.st.res.frozen 1; have x2 := HF7.out.st.res.frozen 2; have x3 := HF7.out.st.res.frozen 3; have x4 := HF7.out.st.res.frozen 4; have x5 := HF7.out.st.res.frozen 5
    have hFin := HF7.out.fin (.int .i64 1) (.int .i64 p1) (.int .u64 p2) (.int .i64 0) (.slice none 0 0) (.slice none 0 0) rfl rfl rfl rfl rfl rfl
    unfold put6 at hFin
    have HFin : Hid _ := hFin
    clear hFin
    go_wp2
    refine bodyPost_ret (v := .agg #[.int .i64 1, .int .i64 p1, .int .u64 p2, .int .i64 0, .slice none 0 0, .slice none 0 0]) ?_ rfl ?_
    · rw [results_cell1 rfl]
      go_simp
    · rw [HE.out]
      exact ⟨(.slice none 0 0), (.slice none 0 0), rfl, ⟨[], HFin.out.1⟩, HFin.out.2.1, HFin.out.2.2.1, HFin.out.2.2.2⟩
  · subst hc
    obtain ⟨p1, hp1⟩ : ∃ p1, p1 = (rCount L0 K0 7).1 := ⟨_, rfl⟩
    obtain ⟨L1, hL1⟩ : ∃ L1, L1 = (rCount L0 K0 7).2.1 := ⟨_, rfl⟩
    obtain ⟨K1, hK1⟩ : ∃ K1, K1 = (rCount L0 K0 7).2.2 := ⟨_, rfl⟩
    obtain ⟨p2, hp2⟩ : ∃ p2 : Int, p2 = (rCount L1 K1 200).1 := ⟨_, rfl⟩
    obtain ⟨L2, hL2⟩ : ∃ L2, L2 = (rCount L1 K1 200).2.1 := ⟨_, rfl⟩
    obtain ⟨K2, hK2⟩ : ∃ K2, K2 = (rCount L1 K1 200).2.2 := ⟨_, rfl⟩
    have HE : Hid (read2 L0 K0 = (⟨2, p1, 0, p2, [], []⟩, L2, K2)) := (show _ = _ by rw [hp2, hL2, hK2, hp1, hL1, hK1]; rfl)
    have HI : Hid (I64 p1 ∧ I64 p2) := (show _ ∧ _ by
      have h1 := rCount_range L0 K0 (most := 7) (by omega)
      rw [← hp1] at h1
      have h2 := rCount_range L1 K1 (most := 200) (by omega)
      unfold I64 
      omega)
    have H1 : Hid (Calls Try.prog 64 #[.agg #[ptr rb]] w3.drew fun r w' => r = .returned (.int .i64 p1) ∧ ChSt w w' rb bc L1 K1 [.int .i64 2, .int .i64 0, .int .u64 0, .int .i64 0, .slice none 0 0, .slice none 0 0] z38) := (show Calls _ _ _ _ _ from by
      refine (who64 HSd.out.rdr).mono ?_
      rintro r w' ⟨rfl, h1, h2⟩
      rw [← hL1, ← hK1] at h1
      rw [← hp1]
      exact ⟨rfl, HSd.out.call h1 h2⟩)
    have H2 : Hid (∀ w', ChSt w w' rb bc L1 K1 [.int .i64 2, .int .i64 0, .int .u64 0, .int .i64 0, .slice none 0 0, .slice none 0 0] z38 → Calls Try.prog 63 #[ptr rb, .int .i64 200] w' fun r w'' => r = .returned (.int .i64 p2) ∧ ChSt w w'' rb bc L2 K2 [.int .i64 2, .int .i64 0, .int .u64 0, .int .i64 0, .slice none 0 0, .slice none 0 0] z38) := fun w' hs => by
      refine (rcount_any _ _ _ _ 200 hs.rdr (by omega)).mono ?_
      rintro r w'' ⟨rfl, h1, h2⟩
      rw [← hL2, ← hK2] at h1
      rw [← hp2]
      exact ⟨rfl, hs.call h1 h2⟩
    clear hp1 hL1 hK1 hp2 hL2 hK2
    clear HSt
    go_upto_region 6 with fail
    refine wp_region_ord (C := fun w' => ∃ z : WIn (fun w' => w'.cell? ⟨w.heap.size, 0, none⟩ = some (ptr rb)), w' = z.w) [(false, 0), (false, 2), (false, 3), (true, 1), (false, 5), (true, 4), (true, 6), (false, 7), (true, 8)] (by kernel_rfl) (by kernel_rfl) ⟨⟨w3.drew, HSd.out.box.cell 0 _ rfl⟩, rfl⟩ ?_
    iterate 3 (refine ord_still rfl rfl ?_; go_big_quiet_step (fail); refine wpQuiet_nil ?_)
    refine ord_mem rfl rfl ?_
    go_simp
    refine H1.out.mono ?_
    rintro r w4 ⟨rfl, h4⟩
    have HS4 : Hid (ChSt w w4 rb bc L1 K1 [.int .i64 2, .int .i64 0, .int .u64 0, .int .i64 0, .slice none 0 0, .slice none 0 0] z38) := h4
    clear h4
    refine ⟨⟨⟨_, HS4.out.box.cell 0 _ rfl⟩, rfl⟩, ?_⟩
    go_simp
    iterate 1 (refine ord_still rfl rfl ?_; go_big_quiet_step (fail); refine wpQuiet_nil ?_)
    refine ord_mem rfl rfl ?_
    go_simp
    refine (H2.out w4 HS4.out).mono ?_
    rintro r w5 ⟨rfl, h5⟩
    have HF5 : Hid (ChRd w w5 rb bc L2 K2 [.int .i64 2, .int .i64 0, .int .u64 0, .int .i64 0, .slice none 0 0, .slice none 0 0] z38 ⟨2, p1, 0, p2, [], []⟩ (.slice none 0 0) (.slice none 0 0) []) := ⟨h5, cg_flat (by unfold I64; simp) HI.out.1 (by unfold U64; simp) HI.out.2 rfl rfl, (fun j hj => by cases hj)⟩
    clear h5
    refine ⟨⟨⟨_, HF5.out.st.box.cell 0 _ rfl⟩, rfl⟩, ?_⟩
    go_simp
    have l1 := HF5.out.st.var.cell 1 _ rfl
    have f1 := HF5.out.st.var.frozen 1
    refine ord_mem rfl rfl ?_
    go_simp
    obtain ⟨w6, hw6⟩ : ∃ w6, w6 = w5.setCell ⟨bc, 1, none⟩ (.int .i64 p1) := ⟨_, rfl⟩
    rw [← hw6]
    have HF6 : Hid (ChRd w w6 rb bc L2 K2 [.int .i64 2, .int .i64 p1, .int .u64 0, .int .i64 0, .slice none 0 0, .slice none 0 0] z38 ⟨2, p1, 0, p2, [], []⟩ (.slice none 0 0) (.slice none 0 0) []) := (by rw [hw6]; exact (show ChRd _ _ _ _ _ _ _ _ _ _ _ _ from HF5.out.setV 1 (.int .i64 p1) rfl))
    clear hw6 l1 f1
    refine ⟨⟨⟨_, HF6.out.st.box.cell 0 _ rfl⟩, rfl⟩, ?_⟩
    go_simp
    iterate 1 (refine ord_still rfl rfl ?_; go_big_quiet_step (fail); refine wpQuiet_nil ?_)
    have l2 := HF6.out.st.var.cell 3 _ rfl
    have f2 := HF6.out.st.var.frozen 3
    refine ord_mem rfl rfl ?_
    go_simp
    obtain ⟨w7, hw7⟩ : ∃ w7, w7 = w6.setCell ⟨bc, 3, none⟩ (.int .i64 p2) := ⟨_, rfl⟩
    rw [← hw7]
    have HF7 : Hid (ChRd w w7 rb bc L2 K2 [.int .i64 2, .int .i64 p1, .int .u64 0, .int .i64 p2, .slice none 0 0, .slice none 0 0] z38 ⟨2, p1, 0, p2, [], []⟩ (.slice none 0 0) (.slice none 0 0) []) := (by rw [hw7]; exact (show ChRd _ _ _ _ _ _ _ _ _ _ _ _ from HF6.out.setV 3 (.int .i64 p2) rfl))
    clear hw7 l2 f2
    refine ⟨⟨⟨_, HF7.out.st.box.cell 0 _ rfl⟩, rfl⟩, ?_⟩
    go_simp
    refine ord_end ?_
    clear z0 ne v0
    have u0 := HF7.out.st.var.cell 0 _ rfl; have u1 := HF7.out.st.var.cell 1 _ rfl; have u2 := HF7.out.st.var.cell 2 _ rfl; have u3 := HF7.out.st.var.cell 3 _ rfl; have u4 := HF7.out.st.var.cell 4 _ rfl; have u5 := HF7.out.st.var.cell 5 _ rfl
    have y0 := HF7.out.st.res.cell 0 _ rfl; have y1 := HF7.out.st.res.cell 1 _ rfl; have y2 := HF7.out.st.res.cell 2 _ rfl; have y3 := HF7.out.st.res.cell 3 _ rfl; have y4 := HF7.out.st.res.cell 4 _ rfl; have y5 := HF7.out.st.res.cell 5 _ rfl
    have x0 := HF7.out.st.res.frozen 0; have x1 := HF7.out.st.res.frozen 1; have x2 := HF7.out.st.res.frozen 2; have x3 := HF7.out.st.res.frozen 3; have x4 := HF7.out.st.res.frozen 4; have x5 := HF7.out.st.res.frozen 5
    have hFin := HF7.out.fin (.int .i64 2) (.int .i64 p1) (.int .u64 0) (.int .i64 p2) (.slice none 0 0) (.slice none 0 0) rfl rfl rfl rfl rfl rfl
    unfold put6 at hFin
    have HFin : Hid _ := hFin
    clear hFin
    go_wp2
    refine bodyPost_ret (v := .agg #[.int .i64 2, .int .i64 p1, .int .u64 0, .int .i64 p2, .slice none 0 0, .slice none 0 0]) ?_ rfl ?_
    · rw [results_cell1 rfl]
      go_simp
    · rw [HE.out]
      exact ⟨(.slice none 0 0), (.slice none 0 0), rfl, ⟨[], HFin.out.1⟩, HFin.out.2.1, HFin.out.2.2.1, HFin.out.2.2.2⟩
  · subst hc
    obtain ⟨ws1, hp1⟩ : ∃ ws1, ws1 = (wsOf L0 K0).1 := ⟨_, rfl⟩
    obtain ⟨L1, hL1⟩ : ∃ L1, L1 = (wsOf L0 K0).2.1 := ⟨_, rfl⟩
    obtain ⟨K1, hK1⟩ : ∃ K1, K1 = (wsOf L0 K0).2.2 := ⟨_, rfl⟩
    obtain ⟨p2, hp2⟩ : ∃ p2, p2 = (rBytes L1 K1 24).1 := ⟨_, rfl⟩
    obtain ⟨L2, hL2⟩ : ∃ L2, L2 = (rBytes L1 K1 24).2.1 := ⟨_, rfl⟩
    obtain ⟨K2, hK2⟩ : ∃ K2, K2 = (rBytes L1 K1 24).2.2 := ⟨_, rfl⟩
    have HE : Hid (read3 L0 K0 = (⟨3, 0, 0, 0, ws1, p2⟩, L2, K2)) := (show _ = _ by unfold read3; rw [hp2, hL2, hK2, hL1, hK1, hp1])
    have H1 : Hid (Calls Try.prog 66 #[.agg #[ptr rb]] w3.drew fun r w' => ∃ x n c qs, r = .returned (.slice x n c) ∧ ChSt w w' rb bc L1 K1 [.int .i64 3, .int .i64 0, .int .u64 0, .int .i64 0, .slice none 0 0, .slice none 0 0] z38 ∧ (RowF wq w' (.slice x n c) qs ∧ (∀ j, (Value.slice x n c).ownBlock = some j → bc < j) ∧ (∀ q ∈ qs, Rd w' q.2 q.1.b ∧ I64 q.1.w) ∧ qs.map (·.1) = ws1 ∧ L1.length ≤ 1000000)) := (show Calls _ _ _ _ _ from by
      refine (wraps66 HSd.out.rdr HLl.out).mono ?_
      rintro r w' ⟨x, n, c, qs, rfl, h1, h2, h3, h4, h5, h6⟩
      rw [← hL1, ← hK1] at h4
      rw [← hL1] at h5
      rw [← hp1] at h3
      have hbl := HSd.out.var.lt
      have hl2 := HLl.out
      exact ⟨x, n, c, qs, rfl, HSd.out.call h4 h6, rowF_own wq_len h1, (fun j hj => by have := (OwnW.lt h1 j hj).1; omega), h2, h3, by omega⟩)
    have H2 : Hid (∀ w' x n c qs, ChSt w w' rb bc L1 K1 [.int .i64 3, .int .i64 0, .int .u64 0, .int .i64 0, .slice none 0 0, .slice none 0 0] z38 → (RowF wq w' (.slice x n c) qs ∧ (∀ j, (Value.slice x n c).ownBlock = some j → bc < j) ∧ (∀ q ∈ qs, Rd w' q.2 q.1.b ∧ I64 q.1.w) ∧ qs.map (·.1) = ws1 ∧ L1.length ≤ 1000000) → Calls Try.prog 67 #[ptr rb, .int .i64 24] w' fun r w'' => ∃ x2 n2 c2, r = .returned (.slice x2 n2 c2) ∧ ChRd w w'' rb bc L2 K2 [.int .i64 3, .int .i64 0, .int .u64 0, .int .i64 0, .slice none 0 0, .slice none 0 0] z38 ⟨3, 0, 0, 0, ws1, p2⟩ (.slice x n c) (.slice x2 n2 c2) qs) := fun w' x n c qs hs hq => by
      obtain ⟨q1, q2, q3, q4, q5⟩ := hq
      refine (rbytes_any w' rb L1 K1 24 hs.rdr (by omega) (by omega)).mono ?_
      rintro r w'' ⟨v, rfl, h0, h1, h2⟩
      rw [← hp2] at h0
      rw [← hL2, ← hK2] at h1
      obtain ⟨x2, c2, e⟩ := h0.len
      subst e
      have hbc := hs.bc
      have hrb := hs.rb
      refine ⟨x2, _, c2, rfl, hs.call h1 h2, ⟨q1.blocks (fun j hj hlt => h2.block j hlt (fun e => by have := q2 j hj; have := Option.some.inj e; omega)), fun q hq => ((q3 q hq).1.past hs.rdr h2), fun q hq => (q3 q hq).2, q4, h0, ?_, ?_, ?_, ?_⟩, q2⟩
      all_goals (simp [I64, U64])
    clear hp1 hL1 hK1 hp2 hL2 hK2
    clear HSt
    go_upto_region 8 with fail
    refine wp_region_ord (C := fun w' => ∃ z : WIn (fun w' => w'.cell? ⟨w.heap.size, 0, none⟩ = some (ptr rb)), w' = z.w) [(false, 0), (false, 2), (false, 3), (true, 1), (false, 5), (true, 4), (true, 6), (false, 7), (true, 8)] (by kernel_rfl) (by kernel_rfl) ⟨⟨w3.drew, HSd.out.box.cell 0 _ rfl⟩, rfl⟩ ?_
    iterate 3 (refine ord_still rfl rfl ?_; go_big_quiet_step (fail); refine wpQuiet_nil ?_)
    refine ord_mem rfl rfl ?_
    go_simp
    refine H1.out.mono ?_
    rintro r w4 ⟨xa, na, ca, qs, rfl, h4, h4b⟩
    have HS4 : Hid (ChSt w w4 rb bc L1 K1 [.int .i64 3, .int .i64 0, .int .u64 0, .int .i64 0, .slice none 0 0, .slice none 0 0] z38) := h4
    clear h4
    have HQ4 : Hid (RowF wq w4 (.slice xa na ca) qs ∧ (∀ j, (Value.slice xa na ca).ownBlock = some j → bc < j) ∧ (∀ q ∈ qs, Rd w4 q.2 q.1.b ∧ I64 q.1.w) ∧ qs.map (·.1) = ws1 ∧ L1.length ≤ 1000000) := h4b
    clear h4b
    refine ⟨⟨⟨_, HS4.out.box.cell 0 _ rfl⟩, rfl⟩, ?_⟩
    go_simp
    iterate 1 (refine ord_still rfl rfl ?_; go_big_quiet_step (fail); refine wpQuiet_nil ?_)
    refine ord_mem rfl rfl ?_
    go_simp
    refine (H2.out w4 xa na ca qs HS4.out HQ4.out).mono ?_
    rintro r w5 ⟨xb, nb, cb, rfl, h5⟩
    have HF5 : Hid (ChRd w w5 rb bc L2 K2 [.int .i64 3, .int .i64 0, .int .u64 0, .int .i64 0, .slice none 0 0, .slice none 0 0] z38 ⟨3, 0, 0, 0, ws1, p2⟩ (.slice xa na ca) (.slice xb nb cb) qs) := h5
    clear h5
    refine ⟨⟨⟨_, HF5.out.st.box.cell 0 _ rfl⟩, rfl⟩, ?_⟩
    go_simp
    have l1 := HF5.out.st.var.cell 4 _ rfl
    have f1 := HF5.out.st.var.frozen 4
    refine ord_mem rfl rfl ?_
    go_simp
    obtain ⟨w6, hw6⟩ : ∃ w6, w6 = w5.setCell ⟨bc, 4, none⟩ (.slice xa na ca) := ⟨_, rfl⟩
    rw [← hw6]
    have HF6 : Hid (ChRd w w6 rb bc L2 K2 [.int .i64 3, .int .i64 0, .int .u64 0, .int .i64 0, .slice xa na ca, .slice none 0 0] z38 ⟨3, 0, 0, 0, ws1, p2⟩ (.slice xa na ca) (.slice xb nb cb) qs) := (by rw [hw6]; exact (show ChRd _ _ _ _ _ _ _ _ _ _ _ _ from HF5.out.setV 4 (.slice xa na ca) rfl))
    clear hw6 l1 f1
    refine ⟨⟨⟨_, HF6.out.st.box.cell 0 _ rfl⟩, rfl⟩, ?_⟩
    go_simp
    iterate 1 (refine ord_still rfl rfl ?_; go_big_quiet_step (fail); refine wpQuiet_nil ?_)
    have l2 := HF6.out.st.var.cell 5 _ rfl
    have f2 := HF6.out.st.var.frozen 5
    refine ord_mem rfl rfl ?_
    go_simp
    obtain ⟨w7, hw7⟩ : ∃ w7, w7 = w6.setCell ⟨bc, 5, none⟩ (.slice xb nb cb) := ⟨_, rfl⟩
    rw [← hw7]
    have HF7 : Hid (ChRd w w7 rb bc L2 K2 [.int .i64 3, .int .i64 0, .int .u64 0, .int .i64 0, .slice xa na ca, .slice xb nb cb] z38 ⟨3, 0, 0, 0, ws1, p2⟩ (.slice xa na ca) (.slice xb nb cb) qs) := (by rw [hw7]; exact (show ChRd _ _ _ _ _ _ _ _ _ _ _ _ from HF6.out.setV 5 (.slice xb nb cb) rfl))
    clear hw7 l2 f2
    refine ⟨⟨⟨_, HF7.out.st.box.cell 0 _ rfl⟩, rfl⟩, ?_⟩
    go_simp
    refine ord_end ?_
    clear z0 ne v0
    have u0 := HF7.out.st.var.cell 0 _ rfl; have u1 := HF7.out.st.var.cell 1 _ rfl; have u2 := HF7.out.st.var.cell 2 _ rfl; have u3 := HF7.out.st.var.cell 3 _ rfl; have u4 := HF7.out.st.var.cell 4 _ rfl; have u5 := HF7.out.st.var.cell 5 _ rfl
    have y0 := HF7.out.st.res.cell 0 _ rfl; have y1 := HF7.out.st.res.cell 1 _ rfl; have y2 := HF7.out.st.res.cell 2 _ rfl; have y3 := HF7.out.st.res.cell 3 _ rfl; have y4 := HF7.out.st.res.cell 4 _ rfl; have y5 := HF7.out.st.res.cell 5 _ rfl
    have x0 := HF7.out.st.res.frozen 0; have x1 := HF7.out.st.res.frozen 1; have x2 := HF7.out.st.res.frozen 2; have x3 := HF7.out.st.res.frozen 3; have x4 := HF7.out.st.res.frozen 4; have x5 := HF7.out.st.res.frozen 5
    have hFin := HF7.out.fin (.int .i64 3) (.int .i64 0) (.int .u64 0) (.int .i64 0) (.slice xa na ca) (.slice xb nb cb) rfl rfl rfl rfl rfl rfl
    unfold put6 at hFin
    have HFin : Hid _ := hFin
    clear hFin
    go_wp2
    refine bodyPost_ret (v := .agg #[.int .i64 3, .int .i64 0, .int .u64 0, .int .i64 0, .slice xa na ca, .slice xb nb cb]) ?_ rfl ?_
    · rw [results_cell1 rfl]
      go_simp
    · rw [HE.out]
      exact ⟨(.slice xa na ca), (.slice xb nb cb), rfl, ⟨qs, HFin.out.1⟩, HFin.out.2.1, HFin.out.2.2.1, HFin.out.2.2.2⟩
  · subst hc
    have HF7 : Hid (ChRd w w3 rb bc L0 K0 [.int .i64 0, .int .i64 0, .int .u64 0, .int .i64 0, .slice none 0 0, .slice none 0 0] z38 ⟨0, 0, 0, 0, [], []⟩ (.slice none 0 0) (.slice none 0 0) []) := ⟨HSt.out, cg_flat (by unfold I64; simp) (by unfold I64; simp) (by unfold U64; simp) (by unfold I64; simp) rfl rfl, (fun j hj => by cases hj)⟩
    clear z0 ne HSt HSd v0
    have u0 := HF7.out.st.var.cell 0 _ rfl; have u1 := HF7.out.st.var.cell 1 _ rfl; have u2 := HF7.out.st.var.cell 2 _ rfl; have u3 := HF7.out.st.var.cell 3 _ rfl; have u4 := HF7.out.st.var.cell 4 _ rfl; have u5 := HF7.out.st.var.cell 5 _ rfl
    have y0 := HF7.out.st.res.cell 0 _ rfl; have y1 := HF7.out.st.res.cell 1 _ rfl; have y2 := HF7.out.st.res.cell 2 _ rfl; have y3 := HF7.out.st.res.cell 3 _ rfl; have y4 := HF7.out.st.res.cell 4 _ rfl; have y5 := HF7.out.st.res.cell 5 _ rfl
    have x0 := HF7.out.st.res.frozen 0; have x1 := HF7.out.st.res.frozen 1; have x2 := HF7.out.st.res.frozen 2; have x3 := HF7.out.st.res.frozen 3; have x4 := HF7.out.st.res.frozen 4; have x5 := HF7.out.st.res.frozen 5
    have hFin := HF7.out.fin (.int .i64 0) (.int .i64 0) (.int .u64 0) (.int .i64 0) (.slice none 0 0) (.slice none 0 0) rfl rfl rfl rfl rfl rfl
    unfold put6 at hFin
    have HFin : Hid _ := hFin
    clear hFin
    go_wp2
    refine bodyPost_ret (v := .agg #[.int .i64 0, .int .i64 0, .int .u64 0, .int .i64 0, .slice none 0 0, .slice none 0 0]) ?_ rfl ?_
    · rw [results_cell1 rfl]
      go_simp
    · skip
      exact ⟨(.slice none 0 0), (.slice none 0 0), rfl, ⟨[], HFin.out.1⟩, HFin.out.2.1, HFin.out.2.2.1, HFin.out.2.2.2⟩
end Go.Proofs.Ytgoghmabhdkdjaa
