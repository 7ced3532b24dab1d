/-
  Issue: the entry of these, signed, behind the last one.
-/
import Derived.Test.YteedjdflojfhmaaGrow
namespace Go.Proofs.Yteedjdflojfhmaa
set_option linter.unusedVariables false
set_option linter.unusedSimpArgs false
set_option synthInstance.maxSize 20000
set_option maxHeartbeats 2000000
set_option maxRecDepth 20000
open Go.RowKit Go.Maps

theorem leftB_undrew {w w' : World} {b : Nat} {ft : List Nat} {S : St} {v : Value} {l : List Int} (h : LeftB w.drew b ft S w' v l) : LeftB w b ft S w' v l := ⟨h.1, h.2.1, ⟨h.2.2.1.os, h.2.2.1.tape, h.2.2.1.output, h.2.2.1.size, h.2.2.1.block⟩, h.2.2.2⟩

theorem enters2 (la : Nat) (e : Ent) (x : Value) : ∀ q ∈ [(42, cv la e x), (43, cv la e x)], ∀ args w, (callFunc q.1 args).run Try.prog w = .ok (.enter q.1 args) w := by
  intro q hq
  simp at hq
  rcases hq with rfl | rfl
  all_goals exact fun _ _ => rfl

theorem issue_nil (w : World) (s t u n : Int) (l : List Int) (x : Value) (hx : Rd w x l) : Calls Try.prog 19 #[.pointer none, .int .u64 s, .agg #[.int .i64 t, .int .i64 u], .int .i64 n, x] w fun r w' => r = .returned (.tuple #[ev zeroE (.slice none 0 0), .int .i64 23]) ∧ Below w.heap.size w w' := by
  obtain ⟨a, cap, rfl⟩ := hx.len
  unfold ev zeroE
  dsimp only
  clear hx
  go_enter Try.func19, Try.ntmps19
  go_wp2
  refine bodyPost_ret (v := .tuple #[.agg #[.int .i64 0, .int .i64 0, .int .u64 0, .int .i64 0, .int .i64 0, .int .i64 0, .slice none 0 0, .int .u64 0], .int .i64 23]) ?_ rfl ⟨rfl, ?_⟩
  · rw [results_cell_tmp rfl]
    go_simp
  · exact balloc (balloc (Below.refl _ _) _) _

/-- The log has as many as it may. -/
theorem issue_full {w : World} {o : Nat → Nat} {j la b : Nat} {W p : Int} {L : Lg} (hL : LogIs w o j la b W p L) (hfull : 200 ≤ L.es.length) (s t u n : Int) (l : List Int) (x : Value) (hx : Rd w x l) :
    Calls Try.prog 19 #[ptr la, .int .u64 s, .agg #[.int .i64 t, .int .i64 u], .int .i64 n, x] w fun r w' => r = .returned (.tuple #[ev zeroE (.slice none 0 0), .int .i64 3]) ∧ Below w.heap.size w w' := by
  obtain ⟨v, ps, hA⟩ := hL
  obtain ⟨av, cv', rfl⟩ := hA.rowE.len
  obtain ⟨a, cap, rfl⟩ := hx.len
  have h200 : (200 : Int) ≤ ps.length := by have := hA.len; omega
  have c3 := ((hA.blk.alloc (.cells #[.int .i64 t, .int .i64 u] 45)).alloc (.cells #[.int .i64 0, .int .i64 0, .int .u64 0, .int .i64 0, .int .i64 0, .int .i64 0, .slice none 0 0, .int .u64 0] 47)).cell 3 _ rfl
  unfold ev zeroE
  dsimp only
  clear hx hA
  go_enter Try.func19, Try.ntmps19
  go_wp2
  refine bodyPost_ret (v := .tuple #[.agg #[.int .i64 0, .int .i64 0, .int .u64 0, .int .i64 0, .int .i64 0, .int .i64 0, .slice none 0 0, .int .u64 0], .int .i64 3]) ?_ rfl ⟨rfl, ?_⟩
  · rw [results_cell_tmp rfl]
    go_simp
  · exact balloc (balloc (Below.refl _ _) _) _

theorem issue_bad {w : World} {o : Nat → Nat} {j la b : Nat} {S : St} {W p : Int} {L : Lg} (hO : OrcAt w o b S) (hL : LogIs w o j la b W p L) (hj0 : j ≠ 0) (hj1 : j ≠ 1) (hfew : L.es.length < 200) (s t u n : Int) (ht : I64 t) (hu : I64 u) (hn : I64 n) (l : List Int) (x : Value) (hx : Kp0 w o x l) (hlen : l.length ≤ 90000)
    (hk : issueK L (candE W L t u n l) ≠ 0) :
    Calls Try.prog 19 #[ptr la, .int .u64 s, .agg #[.int .i64 t, .int .i64 u], .int .i64 n, x] w fun r w' => r = .returned (.tuple #[ev zeroE (.slice none 0 0), .int .i64 (issueK L (candE W L t u n l))]) ∧ Below w.heap.size w w' := by
  have HKX : Hid (Kp0 w o x l) := hx
  have HOr : Hid (OrcAt w o b S) := hO
  have HLg : Hid (LogIs w o j la b W p L) := hL
  have okc : EOk (candE W L t u n l) := by
    obtain ⟨v, ps, hA⟩ := hL
    refine ⟨hA.hW, ?_, hA.hsum, ht, hu, hn, ?_, hx.1.oct⟩
    · unfold I64 candE; dsimp only; omega
    · unfold U64 candE; dsimp only; omega
  have F := fun w0 (hw0 : Below w.heap.size w w0) g T (hb : Blk w0 g T ([(42, cv la (candE W L t u n l) x), (43, cv la (candE W L t u n l) x)].map fnV)) => firstWrong_any w0 g [(42, cv la (candE W L t u n l) x), (43, cv la (candE W L t u n l) x)] [unl (rightB (candE W L t u n l)) 1, unl (laterB L.es (candE W L t u n l)) 2] T hb rfl (by simp) (enters2 la _ x) (fun i q k hq hk h0 w' hw' => by
    have hb' := bnext hw0 hw'
    match i, hq, hk with
    | 0, hq, hk =>
      simp at hq hk
      subst hq hk
      exact cright_any w' la _ x (hx.1.below hb')
    | 1, hq, hk =>
      simp at hq hk
      subst hq hk
      exact asks_later (hL.mv (Mv.of_below (I := []) 0 hb') (by simp) (by simp)) (hx.1.below hb')
    | i + 2, hq, hk => simp at hq)
  have hKe : firstK [unl (rightB (candE W L t u n l)) 1, unl (laterB L.es (candE W L t u n l)) 2] = issueK L (candE W L t u n l) := by
    unfold issueK
    rw [if_neg (by omega)]
  rw [hKe] at F
  clear hKe
  generalize issueK L (candE W L t u n l) = K at *
  have hk1 : (K != 0) = true := by simpa using hk
  clear okc hk
  obtain ⟨v, ps, hA⟩ := hL
  obtain ⟨av, cv', rfl⟩ := hA.rowE.len
  obtain ⟨a, cap, rfl⟩ := hx.1.len
  have hLl : L.es.length = ps.length := hA.len
  have h200 : ¬ (200 : Int) ≤ ps.length := by omega
  have HA0 : Hid (LogAt w o j la b W p L (.slice av ps.length cv') ps) := hA
  obtain ⟨sum, hsum⟩ : ∃ sum, L.sum = sum := ⟨_, rfl⟩
  unfold candE at F
  unfold cv at F
  simp only [List.map_cons, List.map_nil, fnV] at F
  skip
  simp only [hLl, hsum] at F
  skip
  have HF : Hid (∀ w0, Below w.heap.size w w0 → ∀ g T, Blk w0 g T [.func (.func 42) #[.agg #[ptr la, .int .i64 W, .int .i64 (ps.length : Int), .int .u64 sum, .int .i64 t, .int .i64 u, .int .i64 n, .slice a l.length cap, .int .u64 0]] #[], .func (.func 43) #[.agg #[ptr la, .int .i64 W, .int .i64 (ps.length : Int), .int .u64 sum, .int .i64 t, .int .i64 u, .int .i64 n, .slice a l.length cap, .int .u64 0]] #[]] → Calls Try.prog 44 #[.slice (some ⟨g, 0, none⟩) 2 2] w0 fun r w' => r = .returned (.int .i64 K) ∧ Below w0.heap.size w0 w') := F
  have HLb : Hid (Blk w la 91 [ptr b, .int .i64 W, .int .u64 p, .slice av ps.length cv', .int .u64 sum]) := (show Blk _ _ _ _ from by rw [← hsum]; exact hA.blk)
  clear F
  obtain ⟨w1, hw1⟩ : ∃ w1, w1 = (w.alloc (.cells #[.int .i64 t, .int .i64 u] 45)).alloc (.cells #[.int .i64 0, .int .i64 0, .int .u64 0, .int .i64 0, .int .i64 0, .int .i64 0, .slice none 0 0, .int .u64 0] 47) := ⟨_, rfl⟩
  have HB1 : Hid (Below w.heap.size w w1) := by show Below _ _ _; rw [hw1]; exact balloc (balloc (Below.refl _ _) _) _
  have HT1 : Hid (Blk w1 w.heap.size 45 [.int .i64 t, .int .i64 u]) := by show Blk _ _ _ _; rw [hw1]; exact (blk_new w [.int .i64 t, .int .i64 u] 45).alloc _
  have HZ1 : Hid (Blk w1 (w.heap.size + 1) 47 [.int .i64 0, .int .i64 0, .int .u64 0, .int .i64 0, .int .i64 0, .int .i64 0, .slice none 0 0, .int .u64 0]) := by
    show Blk _ _ _ _
    rw [hw1]
    have := blk_new (w.alloc (.cells #[.int .i64 t, .int .i64 u] 45)) [.int .i64 0, .int .i64 0, .int .u64 0, .int .i64 0, .int .i64 0, .int .i64 0, .slice none 0 0, .int .u64 0] 47
    simpa using this
  have HL1 : Hid (Blk w1 la 91 [ptr b, .int .i64 W, .int .u64 p, .slice av ps.length cv', .int .u64 sum]) := (show Blk _ _ _ _ from HLb.out.below HB1.out)
  have q3 := ((HLb.out.alloc (.cells #[.int .i64 t, .int .i64 u] 45)).alloc (.cells #[.int .i64 0, .int .i64 0, .int .u64 0, .int .i64 0, .int .i64 0, .int .i64 0, .slice none 0 0, .int .u64 0] 47)).cell 3 _ rfl
  have HNN : Hid (∃ n0, n0 = w.heap.size) := ⟨_, rfl⟩
  unfold ev zeroE
  dsimp only
  clear hx hO hA ht hu hn
  go_enter Try.func19, Try.ntmps19
  go_upto_region 5 with fail
  rw [← hw1]
  obtain ⟨n0, hn0⟩ : ∃ n0, n0 = w.heap.size := ⟨_, rfl⟩
  rw [← hn0] at HT1 HZ1 ⊢
  have HN0 : Hid (n0 = w.heap.size) := hn0
  clear hw1 hn0 q3
  have l0 := fun z : WIn (fun w' => Below w1.heap.size w1 w') => (HL1.out.below z.ok).cell 0 _ rfl
  have l1 := fun z : WIn (fun w' => Below w1.heap.size w1 w') => (HL1.out.below z.ok).cell 1 _ rfl
  have l2 := fun z : WIn (fun w' => Below w1.heap.size w1 w') => (HL1.out.below z.ok).cell 2 _ rfl
  have l3 := fun z : WIn (fun w' => Below w1.heap.size w1 w') => (HL1.out.below z.ok).cell 3 _ rfl
  have l4 := fun z : WIn (fun w' => Below w1.heap.size w1 w') => (HL1.out.below z.ok).cell 4 _ rfl
  have k0 := fun z : WIn (fun w' => Below w1.heap.size w1 w') => (HT1.out.below z.ok).cell 0 _ rfl
  have k1 := fun z : WIn (fun w' => Below w1.heap.size w1 w') => (HT1.out.below z.ok).cell 1 _ rfl
  have ne : Nonempty (WIn (fun w' => Below w1.heap.size w1 w')) := ⟨⟨w1, Below.refl _ _⟩⟩
  refine wp_region_ord (C := fun w' => ∃ z : WIn (fun w' => Below w1.heap.size w1 w'), w' = z.w) [(false, 0), (false, 1), (false, 2), (false, 3), (false, 4), (false, 5), (false, 6), (false, 7), (false, 8), (false, 9), (false, 10), (false, 11), (false, 12), (false, 13), (false, 14), (false, 15), (false, 16), (true, 17), (true, 18)] (by kernel_rfl) (by kernel_rfl) ⟨⟨w1.drew, (Below.refl _ _).drew⟩, rfl⟩ ?_
  iterate 17 (refine ord_still rfl rfl ?_; go_big_quiet_step (fail); refine wpQuiet_nil ?_)
  refine ord_mem rfl rfl ?_
  go_simp
  refine ⟨⟨⟨_, by first | exact (balloc (Below.refl _ _) _).drew | exact balloc (Below.refl _ _).drew _⟩, rfl⟩, ?_⟩
  refine ord_mem rfl rfl ?_
  go_simp
  refine ⟨⟨⟨_, by first | exact (balloc (Below.refl _ _) _).drew | exact balloc (Below.refl _ _).drew _⟩, rfl⟩, ?_⟩
  refine ord_end ?_
  clear l0 l1 l2 l3 l4 k0 k1 ne
  obtain ⟨w2, hw2⟩ : ∃ w2, w2 = (w1.alloc (.cells #[.int .i64 W, .int .i64 (ps.length : Int), .int .u64 sum, .int .i64 t, .int .i64 u, .int .i64 n, .slice a l.length cap, .int .u64 0] 47)).drew := ⟨_, rfl⟩
  have HB2 : Hid (Below w1.heap.size w1 w2) := by show Below _ _ _; rw [hw2]; exact (balloc (Below.refl _ _) _).drew
  have HM2 : Hid (Blk w2 w1.heap.size 47 [.int .i64 W, .int .i64 (ps.length : Int), .int .u64 sum, .int .i64 t, .int .i64 u, .int .i64 n, .slice a l.length cap, .int .u64 0]) := by show Blk _ _ _ _; rw [hw2]; exact blk_new w1 [.int .i64 W, .int .i64 (ps.length : Int), .int .u64 sum, .int .i64 t, .int .i64 u, .int .i64 n, .slice a l.length cap, .int .u64 0] 47
  rw [← hw2]
  obtain ⟨m, hm⟩ : ∃ m, m = w1.heap.size := ⟨_, rfl⟩
  rw [← hm] at HM2 ⊢
  have HMm : Hid (m = w1.heap.size) := hm
  clear hw2 hm
  have m0 := HM2.out.cell 0 _ rfl; have m1 := HM2.out.cell 1 _ rfl; have m2 := HM2.out.cell 2 _ rfl; have m3 := HM2.out.cell 3 _ rfl; have m4 := HM2.out.cell 4 _ rfl; have m5 := HM2.out.cell 5 _ rfl; have m6 := HM2.out.cell 6 _ rfl; have m7 := HM2.out.cell 7 _ rfl
  have HFb : Hid (Blk ((w2.alloc (.cells #[ptr la, .int .i64 W, .int .i64 (ps.length : Int), .int .u64 sum, .int .i64 t, .int .i64 u, .int .i64 n, .slice a l.length cap, .int .u64 0] 96)).alloc (.cells #[.func (.func 42) #[.agg #[ptr la, .int .i64 W, .int .i64 (ps.length : Int), .int .u64 sum, .int .i64 t, .int .i64 u, .int .i64 n, .slice a l.length cap, .int .u64 0]] #[], .func (.func 43) #[.agg #[ptr la, .int .i64 W, .int .i64 (ps.length : Int), .int .u64 sum, .int .i64 t, .int .i64 u, .int .i64 n, .slice a l.length cap, .int .u64 0]] #[]] 98)) (w2.heap.size + 1) 98 [.func (.func 42) #[.agg #[ptr la, .int .i64 W, .int .i64 (ps.length : Int), .int .u64 sum, .int .i64 t, .int .i64 u, .int .i64 n, .slice a l.length cap, .int .u64 0]] #[], .func (.func 43) #[.agg #[ptr la, .int .i64 W, .int .i64 (ps.length : Int), .int .u64 sum, .int .i64 t, .int .i64 u, .int .i64 n, .slice a l.length cap, .int .u64 0]] #[]]) := by
    show Blk _ _ _ _
    have := blk_new (w2.alloc (.cells #[ptr la, .int .i64 W, .int .i64 (ps.length : Int), .int .u64 sum, .int .i64 t, .int .i64 u, .int .i64 n, .slice a l.length cap, .int .u64 0] 96)) [.func (.func 42) #[.agg #[ptr la, .int .i64 W, .int .i64 (ps.length : Int), .int .u64 sum, .int .i64 t, .int .i64 u, .int .i64 n, .slice a l.length cap, .int .u64 0]] #[], .func (.func 43) #[.agg #[ptr la, .int .i64 W, .int .i64 (ps.length : Int), .int .u64 sum, .int .i64 t, .int .i64 u, .int .i64 n, .slice a l.length cap, .int .u64 0]] #[]] 98
    simpa using this
  go_wp2_with (go_at_call 44; go_must (refine (HF.out _ (balloc (balloc (bnext HB1.out HB2.out) _) _) _ _ HFb.out).mono ?_; rintro r w3 ⟨rfl, hb3⟩; have Z3 := ((((HZ1.out.below HB2.out).alloc (.cells #[ptr la, .int .i64 W, .int .i64 (ps.length : Int), .int .u64 sum, .int .i64 t, .int .i64 u, .int .i64 n, .slice a l.length cap, .int .u64 0] 96)).alloc (.cells #[.func (.func 42) #[.agg #[ptr la, .int .i64 W, .int .i64 (ps.length : Int), .int .u64 sum, .int .i64 t, .int .i64 u, .int .i64 n, .slice a l.length cap, .int .u64 0]] #[], .func (.func 43) #[.agg #[ptr la, .int .i64 W, .int .i64 (ps.length : Int), .int .u64 sum, .int .i64 t, .int .i64 u, .int .i64 n, .slice a l.length cap, .int .u64 0]] #[]] 98)).below hb3); have z0 := Z3.cell 0 _ rfl; have z1 := Z3.cell 1 _ rfl; have z2 := Z3.cell 2 _ rfl; have z3 := Z3.cell 3 _ rfl; have z4 := Z3.cell 4 _ rfl; have z5 := Z3.cell 5 _ rfl; have z6 := Z3.cell 6 _ rfl; have z7 := Z3.cell 7 _ rfl; have f0 := Z3.frozen 0; have f1 := Z3.frozen 1; have f2 := Z3.frozen 2; have f3 := Z3.frozen 3; have f4 := Z3.frozen 4; have f5 := Z3.frozen 5; have f6 := Z3.frozen 6; have f7 := Z3.frozen 7))
  refine bodyPost_ret (v := .tuple #[.agg #[.int .i64 0, .int .i64 0, .int .u64 0, .int .i64 0, .int .i64 0, .int .i64 0, .slice none 0 0, .int .u64 0], .int .i64 K]) ?_ rfl ⟨rfl, ?_⟩
  · rw [results_cell_tmp rfl]
    go_simp
  · exact bgrown (bnext (balloc (balloc (bnext HB1.out HB2.out) _) _) hb3) (by have := HN0.out; omega) (grown_set8 _ _ _ _ _ _ _ _ _ _)

theorem issue_good {w : World} {o : Nat → Nat} {j la b : Nat} {S : St} {W p : Int} {L : Lg} (hO : OrcAt w o b S) (hL : LogIs w o j la b W p L) (hj0 : j ≠ 0) (hj1 : j ≠ 1) (hfew : L.es.length < 200) (s t u n : Int) (ht : I64 t) (hu : I64 u) (hn : I64 n) (l : List Int) (x : Value) (hx : Kp0 w o x l) (hlen : l.length ≤ 90000)
    (hs : U64 s) (hsec : S.at s = some .secret) (hN : S.rows.length + 2 < 1000000000) (hk : issueK L (candE W L t u n l) = 0) :
    Calls Try.prog 19 #[ptr la, .int .u64 s, .agg #[.int .i64 t, .int .i64 u], .int .i64 n, x] w fun r w' => ∃ y, r = .returned (.tuple #[ev (signM S s (candE W L t u n l)).1 y, .int .i64 0]) ∧ ∃ o', OrcAt w' o' b (addM (signM S s (candE W L t u n l)).2 L (signM S s (candE W L t u n l)).1).1 ∧ LogIs w' o' j la b W p (addM (signM S s (candE W L t u n l)).2 L (signM S s (candE W L t u n l)).1).2 ∧ Kp0 w' o' y l ∧ Mv [1, j] w o w' o' := by
  have HKX : Hid (Kp0 w o x l) := hx
  have HOr : Hid (OrcAt w o b S) := hO
  have HLg : Hid (LogIs w o j la b W p L) := hL
  have okc : EOk (candE W L t u n l) := by
    obtain ⟨v, ps, hA⟩ := hL
    refine ⟨hA.hW, ?_, hA.hsum, ht, hu, hn, ?_, hx.1.oct⟩
    · unfold I64 candE; dsimp only; omega
    · unfold U64 candE; dsimp only; omega
  have F := fun w0 (hw0 : Below w.heap.size w w0) g T (hb : Blk w0 g T ([(42, cv la (candE W L t u n l) x), (43, cv la (candE W L t u n l) x)].map fnV)) => firstWrong_any w0 g [(42, cv la (candE W L t u n l) x), (43, cv la (candE W L t u n l) x)] [unl (rightB (candE W L t u n l)) 1, unl (laterB L.es (candE W L t u n l)) 2] T hb rfl (by simp) (enters2 la _ x) (fun i q k hq hk h0 w' hw' => by
    have hb' := bnext hw0 hw'
    match i, hq, hk with
    | 0, hq, hk =>
      simp at hq hk
      subst hq hk
      exact cright_any w' la _ x (hx.1.below hb')
    | 1, hq, hk =>
      simp at hq hk
      subst hq hk
      exact asks_later (hL.mv (Mv.of_below (I := []) 0 hb') (by simp) (by simp)) (hx.1.below hb')
    | i + 2, hq, hk => simp at hq)
  have hKe : firstK [unl (rightB (candE W L t u n l)) 1, unl (laterB L.es (candE W L t u n l)) 2] = issueK L (candE W L t u n l) := by
    unfold issueK
    rw [if_neg (by omega)]
  rw [hKe] at F
  clear hKe
  have hri := ((issueK_zero L _).1 hk).2.1
  have hrb := (rightB_iff _).2 hri
  have hsg : S.sign s (textL (candE W L t u n l)) = (((S.get (.sig s (textL (candE W L t u n l)))).1, 0), (S.get (.sig s (textL (candE W L t u n l)))).2) := by unfold St.sign; rw [if_pos hsec]
  have SG := fun w' ft (h : Rep w' b ft S) (hv : Rd w' x l) (hst : ∀ w'', Turn ft w' w'' → Rd w'' x l) => signE_yes w' b ft S h (by omega) s hs (candE W L t u n l) x okc hv hst hlen hrb (by rw [hsg])
  rw [hsg] at SG
  have hux := (get_ne hO.good (by omega) (x := .sig s (textL (candE W L t u n l))) ⟨hs, (bytes_oct' okc).1⟩).2
  have hgl := get_len S (.sig s (textL (candE W L t u n l)))
  have AD := fun w' o' y (h1 : OrcAt w' o' b (S.get (.sig s (textL (candE W L t u n l)))).2) (h2 : LogIs w' o' j la b W p L) (h3 : Kp0 w' o' y l) => add_any (e := { candE W L t u n l with g := (S.get (.sig s (textL (candE W L t u n l)))).1 }) (x := y) h1 h2 hj0 hj1 ⟨okc.1, okc.2.1, okc.2.2.1, okc.2.2.2.1, okc.2.2.2.2.1, okc.2.2.2.2.2.1, hux, okc.2.2.2.2.2.2.2⟩ h3 hrb hfew (by omega)
  unfold signM
  dsimp only at *
  rw [hk] at F
  clear hk hri hrb okc hsg hgl
  generalize S.get (.sig s (textL (candE W L t u n l))) = tt at *
  obtain ⟨g, S1⟩ := tt
  dsimp only at *
  generalize addM S1 L { candE W L t u n l with g := g } = t2 at *
  obtain ⟨S2, L2⟩ := t2
  dsimp only at *
  obtain ⟨v, ps, hA⟩ := hL
  obtain ⟨av, cv', rfl⟩ := hA.rowE.len
  obtain ⟨a, cap, rfl⟩ := hx.1.len
  have hLl : L.es.length = ps.length := hA.len
  have h200 : ¬ (200 : Int) ≤ ps.length := by omega
  have HA0 : Hid (LogAt w o j la b W p L (.slice av ps.length cv') ps) := hA
  obtain ⟨sum, hsum⟩ : ∃ sum, L.sum = sum := ⟨_, rfl⟩
  unfold candE at F SG AD ⊢
  unfold cv at F
  simp only [List.map_cons, List.map_nil, fnV] at F
  unfold ev at SG AD ⊢
  simp only [hLl, hsum] at F SG AD
  simp only [hLl, hsum]
  have HF : Hid (∀ w0, Below w.heap.size w w0 → ∀ g T, Blk w0 g T [.func (.func 42) #[.agg #[ptr la, .int .i64 W, .int .i64 (ps.length : Int), .int .u64 sum, .int .i64 t, .int .i64 u, .int .i64 n, .slice a l.length cap, .int .u64 0]] #[], .func (.func 43) #[.agg #[ptr la, .int .i64 W, .int .i64 (ps.length : Int), .int .u64 sum, .int .i64 t, .int .i64 u, .int .i64 n, .slice a l.length cap, .int .u64 0]] #[]] → Calls Try.prog 44 #[.slice (some ⟨g, 0, none⟩) 2 2] w0 fun r w' => r = .returned (.int .i64 0) ∧ Below w0.heap.size w0 w') := F
  have HLb : Hid (Blk w la 91 [ptr b, .int .i64 W, .int .u64 p, .slice av ps.length cv', .int .u64 sum]) := (show Blk _ _ _ _ from by rw [← hsum]; exact hA.blk)
  clear F
  have HSG : Hid (∀ w' ft, Rep w' b ft S → Rd w' (.slice a l.length cap) l → (∀ w'', Turn ft w' w'' → Rd w'' (.slice a l.length cap) l) → Calls Try.prog 45 #[ptr b, .int .u64 s, .agg #[.int .i64 W, .int .i64 (ps.length : Int), .int .u64 sum, .int .i64 t, .int .i64 u, .int .i64 n, .slice a l.length cap, .int .u64 0]] w' fun r w'' => ∃ y, r = .returned (.tuple #[.agg #[.int .i64 W, .int .i64 (ps.length : Int), .int .u64 sum, .int .i64 t, .int .i64 u, .int .i64 n, y, .int .u64 g], .int .i64 0]) ∧ LeftB w' b ft S1 w'' y l) := SG
  have HAD : Hid (∀ w' o' y, OrcAt w' o' b S1 → LogIs w' o' j la b W p L → Kp0 w' o' y l → Calls Try.prog 46 #[ptr la, .agg #[.int .i64 W, .int .i64 (ps.length : Int), .int .u64 sum, .int .i64 t, .int .i64 u, .int .i64 n, y, .int .u64 g]] w' fun r w'' => r = .returned (.int .i64 0) ∧ ∃ o'', OrcAt w'' o'' b S2 ∧ LogIs w'' o'' j la b W p L2 ∧ Mv [1, j] w' o' w'' o'') := AD
  obtain ⟨w1, hw1⟩ : ∃ w1, w1 = (w.alloc (.cells #[.int .i64 t, .int .i64 u] 45)).alloc (.cells #[.int .i64 0, .int .i64 0, .int .u64 0, .int .i64 0, .int .i64 0, .int .i64 0, .slice none 0 0, .int .u64 0] 47) := ⟨_, rfl⟩
  have HB1 : Hid (Below w.heap.size w w1) := by show Below _ _ _; rw [hw1]; exact balloc (balloc (Below.refl _ _) _) _
  have HT1 : Hid (Blk w1 w.heap.size 45 [.int .i64 t, .int .i64 u]) := by show Blk _ _ _ _; rw [hw1]; exact (blk_new w [.int .i64 t, .int .i64 u] 45).alloc _
  have HZ1 : Hid (Blk w1 (w.heap.size + 1) 47 [.int .i64 0, .int .i64 0, .int .u64 0, .int .i64 0, .int .i64 0, .int .i64 0, .slice none 0 0, .int .u64 0]) := by
    show Blk _ _ _ _
    rw [hw1]
    have := blk_new (w.alloc (.cells #[.int .i64 t, .int .i64 u] 45)) [.int .i64 0, .int .i64 0, .int .u64 0, .int .i64 0, .int .i64 0, .int .i64 0, .slice none 0 0, .int .u64 0] 47
    simpa using this
  have HL1 : Hid (Blk w1 la 91 [ptr b, .int .i64 W, .int .u64 p, .slice av ps.length cv', .int .u64 sum]) := (show Blk _ _ _ _ from HLb.out.below HB1.out)
  have q3 := ((HLb.out.alloc (.cells #[.int .i64 t, .int .i64 u] 45)).alloc (.cells #[.int .i64 0, .int .i64 0, .int .u64 0, .int .i64 0, .int .i64 0, .int .i64 0, .slice none 0 0, .int .u64 0] 47)).cell 3 _ rfl
  have HNN : Hid (∃ n0, n0 = w.heap.size) := ⟨_, rfl⟩
  clear hx hO hA ht hu hn SG AD hux
  go_enter Try.func19, Try.ntmps19
  go_upto_region 5 with fail
  rw [← hw1]
  obtain ⟨n0, hn0⟩ : ∃ n0, n0 = w.heap.size := ⟨_, rfl⟩
  rw [← hn0] at HT1 HZ1 ⊢
  have HN0 : Hid (n0 = w.heap.size) := hn0
  clear hw1 hn0 q3
  have l0 := fun z : WIn (fun w' => Below w1.heap.size w1 w') => (HL1.out.below z.ok).cell 0 _ rfl
  have l1 := fun z : WIn (fun w' => Below w1.heap.size w1 w') => (HL1.out.below z.ok).cell 1 _ rfl
  have l2 := fun z : WIn (fun w' => Below w1.heap.size w1 w') => (HL1.out.below z.ok).cell 2 _ rfl
  have l3 := fun z : WIn (fun w' => Below w1.heap.size w1 w') => (HL1.out.below z.ok).cell 3 _ rfl
  have l4 := fun z : WIn (fun w' => Below w1.heap.size w1 w') => (HL1.out.below z.ok).cell 4 _ rfl
  have k0 := fun z : WIn (fun w' => Below w1.heap.size w1 w') => (HT1.out.below z.ok).cell 0 _ rfl
  have k1 := fun z : WIn (fun w' => Below w1.heap.size w1 w') => (HT1.out.below z.ok).cell 1 _ rfl
  have ne : Nonempty (WIn (fun w' => Below w1.heap.size w1 w')) := ⟨⟨w1, Below.refl _ _⟩⟩
  refine wp_region_ord (C := fun w' => ∃ z : WIn (fun w' => Below w1.heap.size w1 w'), w' = z.w) [(false, 0), (false, 1), (false, 2), (false, 3), (false, 4), (false, 5), (false, 6), (false, 7), (false, 8), (false, 9), (false, 10), (false, 11), (false, 12), (false, 13), (false, 14), (false, 15), (false, 16), (true, 17), (true, 18)] (by kernel_rfl) (by kernel_rfl) ⟨⟨w1.drew, (Below.refl _ _).drew⟩, rfl⟩ ?_
  iterate 17 (refine ord_still rfl rfl ?_; go_big_quiet_step (fail); refine wpQuiet_nil ?_)
  refine ord_mem rfl rfl ?_
  go_simp
  refine ⟨⟨⟨_, by first | exact (balloc (Below.refl _ _) _).drew | exact balloc (Below.refl _ _).drew _⟩, rfl⟩, ?_⟩
  refine ord_mem rfl rfl ?_
  go_simp
  refine ⟨⟨⟨_, by first | exact (balloc (Below.refl _ _) _).drew | exact balloc (Below.refl _ _).drew _⟩, rfl⟩, ?_⟩
  refine ord_end ?_
  clear l0 l1 l2 l3 l4 k0 k1 ne
  obtain ⟨w2, hw2⟩ : ∃ w2, w2 = (w1.alloc (.cells #[.int .i64 W, .int .i64 (ps.length : Int), .int .u64 sum, .int .i64 t, .int .i64 u, .int .i64 n, .slice a l.length cap, .int .u64 0] 47)).drew := ⟨_, rfl⟩
  have HB2 : Hid (Below w1.heap.size w1 w2) := by show Below _ _ _; rw [hw2]; exact (balloc (Below.refl _ _) _).drew
  have HM2 : Hid (Blk w2 w1.heap.size 47 [.int .i64 W, .int .i64 (ps.length : Int), .int .u64 sum, .int .i64 t, .int .i64 u, .int .i64 n, .slice a l.length cap, .int .u64 0]) := by show Blk _ _ _ _; rw [hw2]; exact blk_new w1 [.int .i64 W, .int .i64 (ps.length : Int), .int .u64 sum, .int .i64 t, .int .i64 u, .int .i64 n, .slice a l.length cap, .int .u64 0] 47
  rw [← hw2]
  obtain ⟨m, hm⟩ : ∃ m, m = w1.heap.size := ⟨_, rfl⟩
  rw [← hm] at HM2 ⊢
  have HMm : Hid (m = w1.heap.size) := hm
  clear hw2 hm
  have m0 := HM2.out.cell 0 _ rfl; have m1 := HM2.out.cell 1 _ rfl; have m2 := HM2.out.cell 2 _ rfl; have m3 := HM2.out.cell 3 _ rfl; have m4 := HM2.out.cell 4 _ rfl; have m5 := HM2.out.cell 5 _ rfl; have m6 := HM2.out.cell 6 _ rfl; have m7 := HM2.out.cell 7 _ rfl
  have HFb : Hid (Blk ((w2.alloc (.cells #[ptr la, .int .i64 W, .int .i64 (ps.length : Int), .int .u64 sum, .int .i64 t, .int .i64 u, .int .i64 n, .slice a l.length cap, .int .u64 0] 96)).alloc (.cells #[.func (.func 42) #[.agg #[ptr la, .int .i64 W, .int .i64 (ps.length : Int), .int .u64 sum, .int .i64 t, .int .i64 u, .int .i64 n, .slice a l.length cap, .int .u64 0]] #[], .func (.func 43) #[.agg #[ptr la, .int .i64 W, .int .i64 (ps.length : Int), .int .u64 sum, .int .i64 t, .int .i64 u, .int .i64 n, .slice a l.length cap, .int .u64 0]] #[]] 98)) (w2.heap.size + 1) 98 [.func (.func 42) #[.agg #[ptr la, .int .i64 W, .int .i64 (ps.length : Int), .int .u64 sum, .int .i64 t, .int .i64 u, .int .i64 n, .slice a l.length cap, .int .u64 0]] #[], .func (.func 43) #[.agg #[ptr la, .int .i64 W, .int .i64 (ps.length : Int), .int .u64 sum, .int .i64 t, .int .i64 u, .int .i64 n, .slice a l.length cap, .int .u64 0]] #[]]) := by
    show Blk _ _ _ _
    have := blk_new (w2.alloc (.cells #[ptr la, .int .i64 W, .int .i64 (ps.length : Int), .int .u64 sum, .int .i64 t, .int .i64 u, .int .i64 n, .slice a l.length cap, .int .u64 0] 96)) [.func (.func 42) #[.agg #[ptr la, .int .i64 W, .int .i64 (ps.length : Int), .int .u64 sum, .int .i64 t, .int .i64 u, .int .i64 n, .slice a l.length cap, .int .u64 0]] #[], .func (.func 43) #[.agg #[ptr la, .int .i64 W, .int .i64 (ps.length : Int), .int .u64 sum, .int .i64 t, .int .i64 u, .int .i64 n, .slice a l.length cap, .int .u64 0]] #[]] 98
    simpa using this
  obtain ⟨c, hc1, hcj, hcw⟩ := fresh_owner w o j
  have HCW : Hid (∀ k, k < w.heap.size → o k ≠ c) := hcw
  clear hcw
  go_upto_region 11 with (go_at_call 44; go_must (refine (HF.out _ (balloc (balloc (bnext HB1.out HB2.out) _) _) _ _ HFb.out).mono ?_; rintro r w3 ⟨rfl, hb3⟩))
  have HBw : Hid (Below w.heap.size w w3) := (show Below _ _ _ from bnext (balloc (balloc (bnext HB1.out HB2.out) _) _) hb3)
  have HZ3 : Hid (Blk w3 (n0 + 1) 47 [.int .i64 0, .int .i64 0, .int .u64 0, .int .i64 0, .int .i64 0, .int .i64 0, .slice none 0 0, .int .u64 0]) := (show Blk _ _ _ _ from (((HZ1.out.below HB2.out).alloc (.cells #[ptr la, .int .i64 W, .int .i64 (ps.length : Int), .int .u64 sum, .int .i64 t, .int .i64 u, .int .i64 n, .slice a l.length cap, .int .u64 0] 96)).alloc (.cells #[.func (.func 42) #[.agg #[ptr la, .int .i64 W, .int .i64 (ps.length : Int), .int .u64 sum, .int .i64 t, .int .i64 u, .int .i64 n, .slice a l.length cap, .int .u64 0]] #[], .func (.func 43) #[.agg #[ptr la, .int .i64 W, .int .i64 (ps.length : Int), .int .u64 sum, .int .i64 t, .int .i64 u, .int .i64 n, .slice a l.length cap, .int .u64 0]] #[]] 98)).below hb3)
  have HM3 : Hid (Blk w3 m 47 [.int .i64 W, .int .i64 (ps.length : Int), .int .u64 sum, .int .i64 t, .int .i64 u, .int .i64 n, .slice a l.length cap, .int .u64 0]) := (show Blk _ _ _ _ from ((HM2.out.alloc (.cells #[ptr la, .int .i64 W, .int .i64 (ps.length : Int), .int .u64 sum, .int .i64 t, .int .i64 u, .int .i64 n, .slice a l.length cap, .int .u64 0] 96)).alloc (.cells #[.func (.func 42) #[.agg #[ptr la, .int .i64 W, .int .i64 (ps.length : Int), .int .u64 sum, .int .i64 t, .int .i64 u, .int .i64 n, .slice a l.length cap, .int .u64 0]] #[], .func (.func 43) #[.agg #[ptr la, .int .i64 W, .int .i64 (ps.length : Int), .int .u64 sum, .int .i64 t, .int .i64 u, .int .i64 n, .slice a l.length cap, .int .u64 0]] #[]] 98)).below hb3)
  have HL3 : Hid (Blk w3 la 91 [ptr b, .int .i64 W, .int .u64 p, .slice av ps.length cv', .int .u64 sum]) := (show Blk _ _ _ _ from HLb.out.below HBw.out)
  have HMv3 : Hid (Mv [] w o w3 (newTo o w c)) := (show Mv _ _ _ _ _ from Mv.of_below c HBw.out)
  have HOm : Hid (newTo o w c m = c) := newTo_new (by have := HMm.out; have := HB1.out.size; omega)
  have HOz : Hid (newTo o w c (n0 + 1) = c) := newTo_new (by have := HN0.out; omega)
  have HNm : Hid (n0 + 1 < m) := (show n0 + 1 < m from by have := HMm.out; have := HZ1.out.lt; omega)
  clear hb3 HB2 HFb HF HL1 HT1 HZ1 HM2 HB1 m0 m1 m2 m3 m4 m5 m6 m7
  obtain ⟨o3, ho3⟩ : ∃ o3, o3 = newTo o w c := ⟨_, rfl⟩
  rw [← ho3] at HMv3 HOm HOz
  clear ho3
  have HOr3 : Hid (OrcAt w3 o3 b S) := HOr.out.mv HMv3.out (by simp)
  have HLg3 : Hid (LogIs w3 o3 j la b W p L) := HLg.out.mv HMv3.out (by simp) (by simp)
  have HKX3 : Hid (Kp0 w3 o3 (.slice a l.length cap) l) := HKX.out.mv HMv3.out (by simp)
  obtain ⟨ft, hrep, hft⟩ := HOr3.out
  have HRep : Hid (Rep w3 b ft S) := hrep
  have HFt : Hid (∀ k ∈ ft, o3 k = 1) := hft
  clear hrep hft
  have l0 := fun z : WIn (fun w' => Blk w' la 91 [ptr b, .int .i64 W, .int .u64 p, .slice av ps.length cv', .int .u64 sum]) => z.ok.cell 0 _ rfl
  have ne : Nonempty (WIn (fun w' => Blk w' la 91 [ptr b, .int .i64 W, .int .u64 p, .slice av ps.length cv', .int .u64 sum])) := ⟨⟨w3, HL3.out⟩⟩
  refine wp_region_ord (C := fun w' => ∃ z : WIn (fun w' => Blk w' la 91 [ptr b, .int .i64 W, .int .u64 p, .slice av ps.length cv', .int .u64 sum]), w' = z.w) [(false, 0), (false, 1), (false, 2), (false, 3), (false, 4), (true, 5), (true, 6), (false, 7), (false, 8), (false, 9), (true, 10), (false, 11)] (by kernel_rfl) (by kernel_rfl) ⟨⟨w3.drew, HL3.out⟩, rfl⟩ ?_
  iterate 5 (refine ord_still rfl rfl ?_; go_big_quiet_step (fail); refine wpQuiet_nil ?_)
  have m0 := HM3.out.cell 0 _ rfl; have m1 := HM3.out.cell 1 _ rfl; have m2 := HM3.out.cell 2 _ rfl; have m3 := HM3.out.cell 3 _ rfl; have m4 := HM3.out.cell 4 _ rfl; have m5 := HM3.out.cell 5 _ rfl; have m6 := HM3.out.cell 6 _ rfl; have m7 := HM3.out.cell 7 _ rfl
  refine ord_mem rfl rfl ?_
  go_simp
  refine ⟨⟨⟨w3.drew, HL3.out⟩, rfl⟩, ?_⟩
  refine ord_mem rfl rfl ?_
  go_simp
  refine (HSG.out w3.drew ft (HRep.out.below (Below.refl _ _).drew) HKX3.out.1.drew (fun w'' ht => HKX3.out.turn1 HFt.out ⟨ht.os, ht.tape, ht.output, ht.size, ht.block⟩)).mono ?_
  rintro r w4 ⟨y, rfl, hl4⟩
  obtain ⟨ay, cy, hyy⟩ := hl4.1.len
  subst hyy
  have HS4 : Hid (∃ o4, OrcAt w4 o4 b S1 ∧ Kp0 w4 o4 (.slice ay l.length cy) l ∧ Mv [1] w3 o3 w4 o4) := OrcAt.leftB HFt.out (leftB_undrew hl4) HRep.out.room
  clear hl4 m0 m1 m2 m3 m4 m5 m6 m7
  obtain ⟨o4, hO4, hy4, hm4⟩ := HS4.out
  have HO4 : Hid (OrcAt w4 o4 b S1) := hO4
  have HY4 : Hid (Kp0 w4 o4 (.slice ay l.length cy) l) := hy4
  have HMv4 : Hid (Mv [1] w3 o3 w4 o4) := hm4
  clear hO4 hy4 hm4 HS4
  have HLg4 : Hid (LogIs w4 o4 j la b W p L) := HLg3.out.mv HMv4.out (by simp) (by simp; omega)
  have HM4 : Hid (Blk w4 m 47 [.int .i64 W, .int .i64 (ps.length : Int), .int .u64 sum, .int .i64 t, .int .i64 u, .int .i64 n, .slice a l.length cap, .int .u64 0]) := (show Blk _ _ _ _ from HM3.out.block (HMv4.out.block m HM3.out.lt (by rw [HOm.out]; simp; omega)))
  have HZ4 : Hid (Blk w4 (n0 + 1) 47 [.int .i64 0, .int .i64 0, .int .u64 0, .int .i64 0, .int .i64 0, .int .i64 0, .slice none 0 0, .int .u64 0]) := (show Blk _ _ _ _ from HZ3.out.block (HMv4.out.block (n0 + 1) HZ3.out.lt (by rw [HOz.out]; simp; omega)))
  have HL4 : Hid (Blk w4 la 91 [ptr b, .int .i64 W, .int .u64 p, .slice av ps.length cv', .int .u64 sum]) := (show Blk _ _ _ _ from by
    have h1 := HA0.out.own
    have h2 := HMv3.out.ext la HLb.out.lt
    exact HL3.out.block (HMv4.out.block la HL3.out.lt (by rw [h2, h1]; simp; omega)))
  have HOm4 : Hid (o4 m = c) := (show o4 m = c from by rw [HMv4.out.ext m HM3.out.lt]; exact HOm.out)
  have HOz4 : Hid (o4 (n0 + 1) = c) := (show o4 (n0 + 1) = c from by rw [HMv4.out.ext _ HZ3.out.lt]; exact HOz.out)
  have HNl : Hid (m ≠ la) := (show m ≠ la from fun e => by
    have h1 := HA0.out.own
    have h2 := HMv3.out.ext la HLb.out.lt
    have h3 := HOm.out
    rw [e, h2, h1] at h3
    omega)
  refine ⟨⟨⟨w4, HL4.out⟩, rfl⟩, ?_⟩
  iterate 3 (refine ord_still rfl rfl ?_; go_big_quiet_step (fail); refine wpQuiet_nil ?_)
  have m0 := HM4.out.cell 0 _ rfl; have m1 := HM4.out.cell 1 _ rfl; have m2 := HM4.out.cell 2 _ rfl; have m3 := HM4.out.cell 3 _ rfl; have m4 := HM4.out.cell 4 _ rfl; have m5 := HM4.out.cell 5 _ rfl; have m6 := HM4.out.cell 6 _ rfl; have m7 := HM4.out.cell 7 _ rfl; have f0 := HM4.out.frozen 0; have f1 := HM4.out.frozen 1; have f2 := HM4.out.frozen 2; have f3 := HM4.out.frozen 3; have f4 := HM4.out.frozen 4; have f5 := HM4.out.frozen 5; have f6 := HM4.out.frozen 6; have f7 := HM4.out.frozen 7
  refine ord_mem rfl rfl ?_
  go_simp
  have HG5 := grown_set8 w4 m (.int .i64 W) (.int .i64 (ps.length : Int)) (.int .u64 sum) (.int .i64 t) (.int .i64 u) (.int .i64 n) (.slice ay l.length cy) (.int .u64 g)
  have HB5 := HM4.out.set8 (.int .i64 W) (.int .i64 (ps.length : Int)) (.int .u64 sum) (.int .i64 t) (.int .i64 u) (.int .i64 n) (.slice ay l.length cy) (.int .u64 g)
  refine ⟨⟨⟨_, HL4.out.past HG5 (fun e => HNl.out e.symm)⟩, rfl⟩, ?_⟩
  clear m0 m1 m2 m3 m4 m5 m6 m7 f0 f1 f2 f3 f4 f5 f6 f7
  generalize ((((((((w4.setCell ⟨m, 0, none⟩ (.int .i64 W)).setCell ⟨m, 1, none⟩ (.int .i64 (ps.length : Int))).setCell ⟨m, 2, none⟩ (.int .u64 sum)).setCell ⟨m, 3, none⟩ (.int .i64 t)).setCell ⟨m, 4, none⟩ (.int .i64 u)).setCell ⟨m, 5, none⟩ (.int .i64 n)).setCell ⟨m, 6, none⟩ (.slice ay l.length cy)).setCell ⟨m, 7, none⟩ (.int .u64 g)) = w5 at HG5 HB5 ⊢
  have HG : Hid (w4.grownBy w5 (some m)) := HG5
  have HM5 : Hid (Blk w5 m 47 [.int .i64 W, .int .i64 (ps.length : Int), .int .u64 sum, .int .i64 t, .int .i64 u, .int .i64 n, .slice ay l.length cy, .int .u64 g]) := (show Blk _ _ _ _ from HB5)
  clear HG5 HB5
  have HMv5 : Hid (Mv [c] w4 o4 w5 o4) := (show Mv _ _ _ _ _ from ⟨HG.out.os, HG.out.tape, HG.out.output, HG.out.size, fun _ _ => rfl, fun k hk hn => HG.out.block k hk (fun e => hn (by have := Option.some.inj e; subst this; rw [HOm4.out]; simp))⟩)
  have HO5 : Hid (OrcAt w5 o4 b S1) := HO4.out.mv HMv5.out (by simp; omega)
  have HLg5 : Hid (LogIs w5 o4 j la b W p L) := HLg4.out.mv HMv5.out (by simp; omega) (by simp; omega)
  have HY5 : Hid (Kp0 w5 o4 (.slice ay l.length cy) l) := HY4.out.mv HMv5.out (by simp; omega)
  have HZ5 : Hid (Blk w5 (n0 + 1) 47 [.int .i64 0, .int .i64 0, .int .u64 0, .int .i64 0, .int .i64 0, .int .i64 0, .slice none 0 0, .int .u64 0]) := (show Blk _ _ _ _ from HZ4.out.past HG.out (by have := HNm.out; omega))
  refine ord_still rfl rfl ?_
  go_big_quiet_step (fail)
  refine wpQuiet_nil ?_
  refine ord_end ?_
  clear l0 ne
  have m0 := HM5.out.cell 0 _ rfl; have m1 := HM5.out.cell 1 _ rfl; have m2 := HM5.out.cell 2 _ rfl; have m3 := HM5.out.cell 3 _ rfl; have m4 := HM5.out.cell 4 _ rfl; have m5 := HM5.out.cell 5 _ rfl; have m6 := HM5.out.cell 6 _ rfl; have m7 := HM5.out.cell 7 _ rfl
  go_wp2_with (go_at_call 46; go_must (refine (HAD.out w5 o4 _ HO5.out HLg5.out HY5.out).mono ?_; rintro r w6 ⟨rfl, h6⟩; have M6 := HM5.out.block ((h6.choose_spec.2.2).block m HM5.out.lt (by rw [HOm4.out]; simp; omega)); have Z6 := HZ5.out.block ((h6.choose_spec.2.2).block (n0 + 1) HZ5.out.lt (by rw [HOz4.out]; simp; omega)); have hz6 := (h6.choose_spec.2.2).ext (n0 + 1) HZ5.out.lt; have p0 := M6.cell 0 _ rfl; have p1 := M6.cell 1 _ rfl; have p2 := M6.cell 2 _ rfl; have p3 := M6.cell 3 _ rfl; have p4 := M6.cell 4 _ rfl; have p5 := M6.cell 5 _ rfl; have p6 := M6.cell 6 _ rfl; have p7 := M6.cell 7 _ rfl; have z0 := Z6.cell 0 _ rfl; have z1 := Z6.cell 1 _ rfl; have z2 := Z6.cell 2 _ rfl; have z3 := Z6.cell 3 _ rfl; have z4 := Z6.cell 4 _ rfl; have z5 := Z6.cell 5 _ rfl; have z6 := Z6.cell 6 _ rfl; have z7 := Z6.cell 7 _ rfl; have f0 := Z6.frozen 0; have f1 := Z6.frozen 1; have f2 := Z6.frozen 2; have f3 := Z6.frozen 3; have f4 := Z6.frozen 4; have f5 := Z6.frozen 5; have f6 := Z6.frozen 6; have f7 := Z6.frozen 7))
  obtain ⟨o6, hO6, hL6, hm6⟩ := h6
  have HOz6 : o6 (n0 + 1) = c := by rw [hm6.ext (n0 + 1) HZ5.out.lt]; exact HOz4.out
  have G7 := grown_set8 w6 (n0 + 1) (.int .i64 W) (.int .i64 (ps.length : Int)) (.int .u64 sum) (.int .i64 t) (.int .i64 u) (.int .i64 n) (.slice ay l.length cy) (.int .u64 g)
  refine bodyPost_ret (v := .tuple #[.agg #[.int .i64 W, .int .i64 (ps.length : Int), .int .u64 sum, .int .i64 t, .int .i64 u, .int .i64 n, .slice ay l.length cy, .int .u64 g], .int .i64 0]) ?_ rfl ⟨_, rfl, o6, ?_⟩
  · rw [results_cell_tmp rfl]
    go_simp
  · generalize ((((((((w6.setCell ⟨n0 + 1, 0, none⟩ (.int .i64 W)).setCell ⟨n0 + 1, 1, none⟩ (.int .i64 (ps.length : Int))).setCell ⟨n0 + 1, 2, none⟩ (.int .u64 sum)).setCell ⟨n0 + 1, 3, none⟩ (.int .i64 t)).setCell ⟨n0 + 1, 4, none⟩ (.int .i64 u)).setCell ⟨n0 + 1, 5, none⟩ (.int .i64 n)).setCell ⟨n0 + 1, 6, none⟩ (.slice ay l.length cy)).setCell ⟨n0 + 1, 7, none⟩ (.int .u64 g)) = w7 at G7 ⊢
    have m7 : Mv [c] w6 o6 w7 o6 := ⟨G7.os, G7.tape, G7.output, G7.size, fun _ _ => rfl, fun k hk hn => G7.block k hk (fun e => hn (by have := Option.some.inj e; subst this; rw [HOz6]; simp))⟩
    refine ⟨hO6.mv m7 (by simp; omega), hL6.mv m7 (by simp; omega) (by simp; omega), (HY5.out.mv hm6 (by simp; omega)).mv m7 (by simp; omega), ?_⟩
    exact Mv.restrict (((((HMv3.out.widen (by simp)).trans (HMv4.out.widen (by simp))).trans (HMv5.out.widen (by simp))).trans (hm6.widen (by simp))).trans (m7.widen (by simp))) HCW.out

theorem issue_any {w : World} {o : Nat → Nat} {j la b : Nat} {S : St} {W p : Int} {L : Lg} (hO : OrcAt w o b S) (hL : LogIs w o j la b W p L) (hj0 : j ≠ 0) (hj1 : j ≠ 1) (s t u n : Int) (ht : I64 t) (hu : I64 u) (hn : I64 n) (l : List Int) (x : Value) (hx : Kp0 w o x l) (hlen : l.length ≤ 90000)
    (hs : U64 s) (hsec : S.at s = some .secret) (hN : S.rows.length + 2 < 1000000000) :
    Calls Try.prog 19 #[ptr la, .int .u64 s, .agg #[.int .i64 t, .int .i64 u], .int .i64 n, x] w fun r w' => ∃ y, r = .returned (.tuple #[ev (issueM S W s L t u n l).1.1 y, .int .i64 (issueM S W s L t u n l).1.2]) ∧ ∃ o', OrcAt w' o' b (issueM S W s L t u n l).2.1 ∧ LogIs w' o' j la b W p (issueM S W s L t u n l).2.2 ∧ Kp0 w' o' y (issueM S W s L t u n l).1.1.b ∧ Mv [1, j] w o w' o' := by
  unfold issueM
  by_cases hk : issueK L (candE W L t u n l) = 0
  · rw [if_pos hk]
    have hfew := ((issueK_zero L _).1 hk).1
    exact issue_good hO hL hj0 hj1 hfew s t u n ht hu hn l x hx hlen hs hsec hN hk
  · rw [if_neg hk]
    have key : Calls Try.prog 19 #[ptr la, .int .u64 s, .agg #[.int .i64 t, .int .i64 u], .int .i64 n, x] w fun r w' => r = .returned (.tuple #[ev zeroE (.slice none 0 0), .int .i64 (issueK L (candE W L t u n l))]) ∧ Below w.heap.size w w' := by
      by_cases hfull : 200 ≤ L.es.length
      · have e3 : issueK L (candE W L t u n l) = 3 := by unfold issueK; rw [if_pos hfull]
        rw [e3]
        exact issue_full hL hfull s t u n l x hx.1
      · exact issue_bad hO hL hj0 hj1 (by omega) s t u n ht hu hn l x hx hlen hk
    refine key.mono ?_
    rintro r w' ⟨rfl, hb⟩
    exact ⟨_, rfl, newTo o w 0, hO.mv (Mv.of_below (I := []) 0 hb) (by simp), hL.mv (Mv.of_below (I := []) 0 hb) (by simp) (by simp), kp0_nil _ _, Mv.of_below 0 hb⟩
end Go.Proofs.Yteedjdflojfhmaa
