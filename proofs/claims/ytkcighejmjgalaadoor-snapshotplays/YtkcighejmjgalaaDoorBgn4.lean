/-
  begin.
-/
import Derived.Test.YtkcighejmjgalaaDoorBgnA
namespace Go.Proofs.YtkcighejmjgalaaDoor
set_option linter.unusedVariables false
set_option linter.unusedSimpArgs false
set_option synthInstance.maxSize 20000
set_option maxHeartbeats 2000000
set_option maxRecDepth 20000
open Go.RowKit Go.Maps

/-- The two variables that hold the half. -/
structure BQ (w4 : World) (base size : Nat) (wx : World) (a b : Nat) : Prop where
  ba : Blk wx a 3 [.int .i64 (base : Int)]
  bb : Blk wx b 3 [.int .i64 (size : Int)]
  na : w4.heap.size ≤ a
  nb : w4.heap.size ≤ b
  bel : Below w4.heap.size w4 wx
theorem bq_one (w4 wd : World) (x y : Nat) (hd : Below w4.heap.size w4 wd) : BQ w4 x y (((wd.alloc (.cells #[.int .i64 (x : Int)] 3)).alloc (.cells #[.int .i64 (y : Int)] 3))) wd.heap.size (wd.heap.size + 1) := by
  have hs := hd.size
  exact ⟨(blk_new wd [.int .i64 (x : Int)] 3).alloc _, by have := blk_new (wd.alloc (.cells #[.int .i64 (x : Int)] 3)) [.int .i64 (y : Int)] 3; simpa using this, hs, by omega, balloc (balloc hd _) _⟩
theorem bq_two (w4 wd : World) (x y : Nat) (hd : Below w4.heap.size w4 wd) : BQ w4 x y (((wd.alloc (.cells #[.int .i64 (y : Int)] 3)).alloc (.cells #[.int .i64 (x : Int)] 3))) (wd.heap.size + 1) wd.heap.size := by
  have hs := hd.size
  exact ⟨by have := blk_new (wd.alloc (.cells #[.int .i64 (y : Int)] 3)) [.int .i64 (x : Int)] 3; simpa using this, (blk_new wd [.int .i64 (y : Int)] 3).alloc _, by omega, hs, balloc (balloc hd _) _⟩
theorem begin26 {w : World} {o : Nat → Nat} {j jj js sb db N : Nat} {jv : Value} {num : Int} {f : Bool} {n : Int} {bv : Value} {l : List Int} {D : Dk} (hS : SAt w o js sb db jv num f) (hD : DIs w o j db D) (hDk : DOk D N) (hN : N + 86 ≤ 2000) (hT : Tab w) (h0 : o 0 = 0) (h2 : 2 ≤ D.now.length) (hn : U32 n) (hn0 : n ≠ 0) (hb : Rd w bv l) (hl : l.length ≤ 1000000)
    (hsj : js ≠ j) (hsjj : js ≠ jj) (hj0 : j ≠ 0) (hjj0 : jj ≠ 0) (hjj : jj ≠ j) :
    Calls Tryd.prog 26 #[ptr sb, .int .u32 n, bv] w fun r w' => ∃ v kd, r = .returned (.tuple #[v, .int .i64 kd]) ∧ BgPost w o j jj db D n l v kd w' := by
  obtain ⟨ab, cb, rfl⟩ := hb.len
  obtain ⟨w4, hw4⟩ : ∃ w4, w4 = (((w.alloc (.cells #[ptr sb] 29)).alloc (.cells #[.int .u32 n] 34)).alloc (.cells #[.slice ab l.length cb] 30)).alloc (.cells #[.pointer none] 60) := ⟨_, rfl⟩
  have HW4 : Hid (w4 = (((w.alloc (.cells #[ptr sb] 29)).alloc (.cells #[.int .u32 n] 34)).alloc (.cells #[.slice ab l.length cb] 30)).alloc (.cells #[.pointer none] 60)) := hw4
  have hb4 : Below w.heap.size w w4 := by rw [hw4]; exact balloc (balloc (balloc (balloc (Below.refl _ _) _) _) _) _
  have hz4 : w4.heap.size = w.heap.size + 1 + 1 + 1 + 1 := by rw [hw4]; simp
  have k3 : Blk w4 w.heap.size 29 [ptr sb] := by rw [hw4]; exact (((blk_new w [ptr sb] 29).alloc _).alloc _).alloc _
  have k4 : Blk w4 (w.heap.size + 1) 34 [.int .u32 n] := by
    rw [hw4]
    have := ((blk_new (w.alloc (.cells #[ptr sb] 29)) [.int .u32 n] 34).alloc (.cells #[.slice ab l.length cb] 30)).alloc (.cells #[.pointer none] 60)
    simpa using this
  have k5 : Blk w4 (w.heap.size + 1 + 1) 30 [.slice ab l.length cb] := by
    rw [hw4]
    have := (blk_new ((w.alloc (.cells #[ptr sb] 29)).alloc (.cells #[.int .u32 n] 34)) [.slice ab l.length cb] 30).alloc (.cells #[.pointer none] 60)
    simpa using this
  have k8 : Blk w4 (w.heap.size + 1 + 1 + 1) 60 [.pointer none] := by
    rw [hw4]
    have := blk_new (((w.alloc (.cells #[ptr sb] 29)).alloc (.cells #[.int .u32 n] 34)).alloc (.cells #[.slice ab l.length cb] 30)) [.pointer none] 60
    simpa using this
  have ks : Blk w4 sb 62 (stc db jv num f) := hS.blk.below hb4
  have HH : Hid (∀ w', Below w4.heap.size w4 w' → Calls Tryd.prog 43 #[ptr db, .int .u32 n] w' fun r w'' => r = .returned (.tuple #[.int .i64 (hbase D.now.length n : Int), .int .i64 (hsize D.now.length : Int)]) ∧ w'' = w') := fun w' hb' => by
    obtain ⟨g, nv, p, d⟩ := (hD.below hb4).below hb'
    exact half43 d h2 hDk.few hn
  have HStg : Hid (∀ wx a b sl fs, BQ w4 (hbase D.now.length n) (hsize D.now.length) wx a b → Blk (wx.alloc (.cells fs.toArray 81)) sl 81 fs → sl = wx.heap.size →
    ∃ S : Nat → World → Prop, S 0 (wx.alloc (.cells fs.toArray 81)) ∧ (∀ k wr, S k wr → Blk wr sl 81 fs) ∧
      (∀ wr, S 0 wr → Calls Tryd.prog 48 #[ptr w.heap.size, ptr a, ptr b, ptr (w.heap.size + 1), ptr (w.heap.size + 1 + 1 + 1)] wr fun r w' => ∃ kd, r = .returned (.int .i64 kd) ∧ ((kd = 0 ∧ S 1 w') ∨ (kd ≠ 0 ∧ BgPost w o j jj db D n l (.pointer none) kd w'))) ∧
      (∀ wr, S 1 wr → Calls Tryd.prog 50 #[ptr (w.heap.size + 1 + 1 + 1), ptr (w.heap.size + 1 + 1)] wr fun r w' => ∃ kd, r = .returned (.int .i64 kd) ∧ ((kd = 0 ∧ S 2 w') ∨ (kd ≠ 0 ∧ BgPost w o j jj db D n l (.pointer none) kd w'))) ∧
      (∀ wr, S 2 wr → Calls Tryd.prog 51 #[ptr w.heap.size, ptr (w.heap.size + 1)] wr fun r w' => ∃ kd, r = .returned (.int .i64 kd) ∧ ((kd = 0 ∧ S 3 w') ∨ (kd ≠ 0 ∧ BgPost w o j jj db D n l (.pointer none) kd w'))) ∧
      (∀ wr, S 3 wr → Calls Tryd.prog 55 #[ptr w.heap.size] wr fun r w' => ∃ kd, r = .returned (.int .i64 kd) ∧ ((kd = 0 ∧ S 4 w') ∨ (kd ≠ 0 ∧ BgPost w o j jj db D n l (.pointer none) kd w'))) ∧
      (∀ wr, S 4 wr → ∃ jb, wr.cell? ⟨w.heap.size + 1 + 1 + 1, 0, none⟩ = some (ptr jb) ∧ BgPost w o j jj db D n l (ptr jb) 0 wr)) := fun wx a b sl fs hq hsl esl => by
    obtain ⟨c, c1, c2, c3⟩ := fresh_owner w o (j + jj + js)
    have hbx : Below w.heap.size w (wx.alloc (.cells fs.toArray 81)) := balloc (bnext hb4 hq.bel) _
    have hqx := hq.bel.size
    have hna := hq.na
    have hnb := hq.nb
    have m5 : Mv [] w o (wx.alloc (.cells fs.toArray 81)) (newBy o w (fun k => if k = w.heap.size + 1 + 1 + 1 then c else 0)) := Mv.of_turn' (ft := []) _ (Turn.of_below hbx) (fun k hk => by cases hk)
    have hbq : ∀ {k e vs}, Blk w4 k e vs → Blk (wx.alloc (.cells fs.toArray 81)) k e vs := fun h => (h.below hq.bel).alloc _
    have nw : ∀ k, w.heap.size ≤ k → k ≠ w.heap.size + 1 + 1 + 1 → newBy o w (fun k => if k = w.heap.size + 1 + 1 + 1 then c else 0) k = 0 := fun k h1 h3 => by rw [newBy_new h1, if_neg h3]
    refine stages (c := c) (js := js) (sb := sb) (jv := jv) (num := num) (f := f) (N := N) (bv := .slice ab l.length cb) hDk hN hT h0 h2 hn hn0 hb hl (by omega) (by omega) hsj hsjj hj0 hjj0 (by omega) (by omega) hjj (fun k hk => c3 k hk)
      (o5 := newBy o w (fun k => if k = w.heap.size + 1 + 1 + 1 then c else 0)) ⟨⟨hbq ks, hbq k3, hbq k4, hbq k5, hq.ba.alloc _, hq.bb.alloc _⟩, ⟨nw _ (by omega) (by omega), nw _ (by omega) (by omega), nw _ (by omega) (by omega), nw _ (by omega) (by omega), nw _ (by omega) (by omega), nw _ (by omega) (by omega)⟩, by rw [newBy_old hS.blk.lt]; exact hS.ob, hbq k8, by rw [newBy_new (by omega), if_pos rfl], hsl, hD.mv m5 (by simp), m5.widen (by simp)⟩ (m5.widen (by simp))
  have HD4 : Hid (Below w4.heap.size w4 w4.drew) := (Below.refl _ _).drew
  have e0 : ∀ z : WIn (fun w' => Below w4.heap.size w4 w'), z.w.cell? ⟨w.heap.size, 0, none⟩ = some (ptr sb) := fun z => (k3.below z.ok).cell 0 _ rfl
  have e1 : ∀ z : WIn (fun w' => Below w4.heap.size w4 w'), z.w.cell? ⟨sb, 0, none⟩ = some (ptr db) := fun z => (ks.below z.ok).cell 0 _ rfl
  have e2 : ∀ z : WIn (fun w' => Below w4.heap.size w4 w'), z.w.cell? ⟨w.heap.size + 1, 0, none⟩ = some (.int .u32 n) := fun z => (k4.below z.ok).cell 0 _ rfl
  have ne : Nonempty (WIn (fun w' => Below w4.heap.size w4 w')) := ⟨⟨w4, Below.refl _ _⟩⟩
  generalize hbase D.now.length n = base at *
  generalize hsize D.now.length = size at *
  clear hS hD hDk hT hb hw4 hb4 k3 k4 k5 k8 ks hz4
  go_enter Tryd.func26, Tryd.ntmps26
  go_upto_region 2 with fail
  rw [← HW4.out]
  go_cut [9, 10] (fun pv qv wx => ∃ a b, pv = ptr a ∧ qv = ptr b ∧ Hid (BQ w4 base size wx a b))
  case first =>
    refine wp_region_tree (C := fun w' => ∃ z : WIn (fun w' => Below w4.heap.size w4 w'), w' = z.w) (.still 0 (.still 1 (.still 2 (.still 3 (.still 4 (.still 5 (.still 6 (.still 7 (.still 8 (.two 9 (.one 10 (.one 11 (.one 12 .done))) 10 (.one 9 (.one 11 (.one 12 .done))))))))))))) (by kernel_rfl) (by kernel_rfl) ⟨⟨w4.drew, HD4.out⟩, rfl⟩ ?_
    generalize w4.drew = wd at *
    iterate 5 (refine tree_still rfl rfl ?_; go_big_quiet_step (fail); refine wpQuiet_nil ?_)
    refine tree_calm (.tuple #[.int .i64 (base : Int), .int .i64 (size : Int)]) rfl rfl ?_ ?_
    · rintro w' ⟨z, rfl⟩
      go_simp
      exact HH.out _ z.ok
    · go_simp
      iterate 3 (refine tree_still rfl rfl ?_; go_big_quiet_step (fail); refine wpQuiet_nil ?_)
      have HB1 : Hid (BQ w4 base size (((wd.alloc (.cells #[.int .i64 (base : Int)] 3)).alloc (.cells #[.int .i64 (size : Int)] 3))) wd.heap.size (wd.heap.size + 1)) := bq_one w4 wd base size HD4.out
      have HB2 : Hid (BQ w4 base size (((wd.alloc (.cells #[.int .i64 (size : Int)] 3)).alloc (.cells #[.int .i64 (base : Int)] 3))) (wd.heap.size + 1) wd.heap.size) := bq_two w4 wd base size HD4.out
      have HC1 : Hid (∀ ob, Below w4.heap.size w4 (wd.alloc ob)) := fun ob => balloc HD4.out ob
      have HC2 : Hid (∀ ob ob', Below w4.heap.size w4 ((wd.alloc ob).alloc ob')) := fun ob ob' => balloc (balloc HD4.out ob) ob'
      clear e0 e1 e2 ne
      refine tree_two rfl rfl rfl rfl ?_ ?_
      · go_simp
        refine ⟨⟨⟨_, HC1.out _⟩, rfl⟩, ?_⟩
        refine tree_one rfl rfl ?_
        go_simp
        refine ⟨⟨⟨_, HC2.out _ _⟩, rfl⟩, ?_⟩
        refine tree_one rfl rfl ?_
        go_simp
        refine ⟨⟨⟨_, HC2.out _ _⟩, rfl⟩, ?_⟩
        refine tree_one rfl rfl ?_
        go_simp
        refine ⟨⟨⟨_, HC2.out _ _⟩, rfl⟩, ?_⟩
        refine tree_done ?_
        go_wp2
        go_meet
        exact ⟨_, _, rfl, rfl, HB1⟩
      · go_simp
        refine ⟨⟨⟨_, HC1.out _⟩, rfl⟩, ?_⟩
        refine tree_one rfl rfl ?_
        go_simp
        refine ⟨⟨⟨_, HC2.out _ _⟩, rfl⟩, ?_⟩
        refine tree_one rfl rfl ?_
        go_simp
        refine ⟨⟨⟨_, HC2.out _ _⟩, rfl⟩, ?_⟩
        refine tree_one rfl rfl ?_
        go_simp
        refine ⟨⟨⟨_, HC2.out _ _⟩, rfl⟩, ?_⟩
        refine tree_done ?_
        go_wp2
        go_meet
        exact ⟨_, _, rfl, rfl, HB2⟩
  case rest =>
    obtain ⟨a, b, hpa, hpb, HQ⟩ := hcut
    rename World => w6
    subst hpa
    subst hpb
    clear e0 e1 e2 ne
    obtain ⟨S, hS0, hSb, hS1, hS2, hS3, hS4, hS5⟩ := HStg.out w6 a b w6.heap.size [.func (.func 48) #[] #[ptr w.heap.size, ptr a, ptr b, ptr (w.heap.size + 1), ptr (w.heap.size + 1 + 1 + 1)], .func (.func 50) #[] #[ptr (w.heap.size + 1 + 1 + 1), ptr (w.heap.size + 1 + 1)], .func (.func 51) #[] #[ptr w.heap.size, ptr (w.heap.size + 1)], .func (.func 55) #[] #[ptr w.heap.size]] HQ.out (blk_new _ _ _) rfl
    have HS0 : Hid (S 0 (w6.alloc (.cells #[.func (.func 48) #[] #[ptr w.heap.size, ptr a, ptr b, ptr (w.heap.size + 1), ptr (w.heap.size + 1 + 1 + 1)], .func (.func 50) #[] #[ptr (w.heap.size + 1 + 1 + 1), ptr (w.heap.size + 1 + 1)], .func (.func 51) #[] #[ptr w.heap.size, ptr (w.heap.size + 1)], .func (.func 55) #[] #[ptr w.heap.size]] 81))) := hS0
    have HBk : Hid (∀ k wr, S k wr → Blk wr w6.heap.size 81 [.func (.func 48) #[] #[ptr w.heap.size, ptr a, ptr b, ptr (w.heap.size + 1), ptr (w.heap.size + 1 + 1 + 1)], .func (.func 50) #[] #[ptr (w.heap.size + 1 + 1 + 1), ptr (w.heap.size + 1 + 1)], .func (.func 51) #[] #[ptr w.heap.size, ptr (w.heap.size + 1)], .func (.func 55) #[] #[ptr w.heap.size]]) := hSb
    have HR0 : Hid (∀ wr, S 0 wr → Calls Tryd.prog 48 #[ptr w.heap.size, ptr a, ptr b, ptr (w.heap.size + 1), ptr (w.heap.size + 1 + 1 + 1)] wr fun r w' => ∃ kd, r = .returned (.int .i64 kd) ∧ ((kd = 0 ∧ S 1 w') ∨ (kd ≠ 0 ∧ BgPost w o j jj db D n l (.pointer none) kd w'))) := hS1
    have HR1 : Hid (∀ wr, S 1 wr → Calls Tryd.prog 50 #[ptr (w.heap.size + 1 + 1 + 1), ptr (w.heap.size + 1 + 1)] wr fun r w' => ∃ kd, r = .returned (.int .i64 kd) ∧ ((kd = 0 ∧ S 2 w') ∨ (kd ≠ 0 ∧ BgPost w o j jj db D n l (.pointer none) kd w'))) := hS2
    have HR2 : Hid (∀ wr, S 2 wr → Calls Tryd.prog 51 #[ptr w.heap.size, ptr (w.heap.size + 1)] wr fun r w' => ∃ kd, r = .returned (.int .i64 kd) ∧ ((kd = 0 ∧ S 3 w') ∨ (kd ≠ 0 ∧ BgPost w o j jj db D n l (.pointer none) kd w'))) := hS3
    have HR3 : Hid (∀ wr, S 3 wr → Calls Tryd.prog 55 #[ptr w.heap.size] wr fun r w' => ∃ kd, r = .returned (.int .i64 kd) ∧ ((kd = 0 ∧ S 4 w') ∨ (kd ≠ 0 ∧ BgPost w o j jj db D n l (.pointer none) kd w'))) := hS4
    have HR4 : Hid (∀ wr, S 4 wr → ∃ jb, wr.cell? ⟨w.heap.size + 1 + 1 + 1, 0, none⟩ = some (ptr jb) ∧ BgPost w o j jj db D n l (ptr jb) 0 wr) := hS5
    clear hS0 hSb hS1 hS2 hS3 hS4 hS5 HStg HQ HH HD4 HW4
    go_wp2
    go_loopw [31] (fun kv wr => (kv = .int .i64 0 ∧ Hid (S 0 wr)) ∨ (kv = .int .i64 1 ∧ Hid (S 1 wr)) ∨ (kv = .int .i64 2 ∧ Hid (S 2 wr)) ∨ (kv = .int .i64 3 ∧ Hid (S 3 wr)) ∨ (kv = .int .i64 4 ∧ Hid (S 4 wr))) (fun kv _ => 4 - (intOf kv).toNat)
    case atStart => exact .inl ⟨rfl, HS0⟩
    case round =>
      rcases hrel with ⟨rfl, hs⟩ | ⟨rfl, hs⟩ | ⟨rfl, hs⟩ | ⟨rfl, hs⟩ | ⟨rfl, hs⟩
      · have l1 : wr.cell? ⟨w6.heap.size, 0, none⟩ = some (.func (.func 48) #[] #[ptr w.heap.size, ptr a, ptr b, ptr (w.heap.size + 1), ptr (w.heap.size + 1 + 1 + 1)]) := (HBk.out 0 wr hs.out).cell 0 _ rfl
        have HC := HR0.out wr hs.out
        go_wp2_with fail
        refine HC.mono ?_
        rintro r w8 ⟨kd, rfl, hcs⟩
        rcases hcs with ⟨rfl, hs1⟩ | ⟨hkd, hp⟩
        · have HS1 : Hid (S 1 w8) := hs1
          clear hs1 hs HC l1
          go_wp2
          go_roundw
          case rel => exact .inr (.inl ⟨by go_num, HS1⟩)
          case measure => simp [intOf]
        · have HP : Hid (BgPost w o j jj db D n l (.pointer none) kd w8) := hp
          have hkd' : (kd != 0) = true := by simpa using hkd
          clear hp hs HC l1 hkd
          go_wp2
          refine bodyPost_ret (results_tmp2 rfl _ _ _) rfl ⟨_, _, rfl, HP.out⟩
      · have l1 : wr.cell? ⟨w6.heap.size, 1, none⟩ = some (.func (.func 50) #[] #[ptr (w.heap.size + 1 + 1 + 1), ptr (w.heap.size + 1 + 1)]) := (HBk.out 1 wr hs.out).cell 1 _ rfl
        have HC := HR1.out wr hs.out
        go_wp2_with fail
        refine HC.mono ?_
        rintro r w8 ⟨kd, rfl, hcs⟩
        rcases hcs with ⟨rfl, hs1⟩ | ⟨hkd, hp⟩
        · have HS1 : Hid (S 2 w8) := hs1
          clear hs1 hs HC l1
          go_wp2
          go_roundw
          case rel => exact .inr (.inr (.inl ⟨by go_num, HS1⟩))
          case measure => simp [intOf]
        · have HP : Hid (BgPost w o j jj db D n l (.pointer none) kd w8) := hp
          have hkd' : (kd != 0) = true := by simpa using hkd
          clear hp hs HC l1 hkd
          go_wp2
          refine bodyPost_ret (results_tmp2 rfl _ _ _) rfl ⟨_, _, rfl, HP.out⟩
      · have l1 : wr.cell? ⟨w6.heap.size, 2, none⟩ = some (.func (.func 51) #[] #[ptr w.heap.size, ptr (w.heap.size + 1)]) := (HBk.out 2 wr hs.out).cell 2 _ rfl
        have HC := HR2.out wr hs.out
        go_wp2_with fail
        refine HC.mono ?_
        rintro r w8 ⟨kd, rfl, hcs⟩
        rcases hcs with ⟨rfl, hs1⟩ | ⟨hkd, hp⟩
        · have HS1 : Hid (S 3 w8) := hs1
          clear hs1 hs HC l1
          go_wp2
          go_roundw
          case rel => exact .inr (.inr (.inr (.inl ⟨by go_num, HS1⟩)))
          case measure => simp [intOf]
        · have HP : Hid (BgPost w o j jj db D n l (.pointer none) kd w8) := hp
          have hkd' : (kd != 0) = true := by simpa using hkd
          clear hp hs HC l1 hkd
          go_wp2
          refine bodyPost_ret (results_tmp2 rfl _ _ _) rfl ⟨_, _, rfl, HP.out⟩
      · have l1 : wr.cell? ⟨w6.heap.size, 3, none⟩ = some (.func (.func 55) #[] #[ptr w.heap.size]) := (HBk.out 3 wr hs.out).cell 3 _ rfl
        have HC := HR3.out wr hs.out
        go_wp2_with fail
        refine HC.mono ?_
        rintro r w8 ⟨kd, rfl, hcs⟩
        rcases hcs with ⟨rfl, hs1⟩ | ⟨hkd, hp⟩
        · have HS1 : Hid (S 4 w8) := hs1
          clear hs1 hs HC l1
          go_wp2
          go_roundw
          case rel => exact .inr (.inr (.inr (.inr ⟨by go_num, HS1⟩)))
          case measure => simp [intOf]
        · have HP : Hid (BgPost w o j jj db D n l (.pointer none) kd w8) := hp
          have hkd' : (kd != 0) = true := by simpa using hkd
          clear hp hs HC l1 hkd
          go_wp2
          refine bodyPost_ret (results_tmp2 rfl _ _ _) rfl ⟨_, _, rfl, HP.out⟩
      · obtain ⟨jb, l1, hp⟩ := HR4.out wr hs.out
        have HP : Hid (BgPost w o j jj db D n l (ptr jb) 0 wr) := hp
        clear hp hs
        go_wp2
        refine bodyPost_ret (results_tmp2 rfl _ _ _) rfl ⟨_, _, rfl, HP.out⟩
end Go.Proofs.YtkcighejmjgalaaDoor
