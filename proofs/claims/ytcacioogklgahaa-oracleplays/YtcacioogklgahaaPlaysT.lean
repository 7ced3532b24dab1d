/-
  Whatever a script calls, both oracles answer alike: the walk of the law.
  Whatever a script calls, both oracles answer alike, and have handed out as many: the law's own walk.
-/
import Derived.Test.YtcacioogklgahaaDoA
import Derived.Test.YtcacioogklgahaaDoB
import Derived.Test.YtcacioogklgahaaDoC
import Derived.Test.YtcacioogklgahaaDo7
import Derived.Test.YtcacioogklgahaaDoD
namespace Go.Proofs.Ytcacioogklgahaa
section
set_option linter.unusedVariables false
set_option synthInstance.maxSize 20000
open Classical
open Go.RowKit Go.Maps

theorem do_any (W w : World) (pb b r : Nat) (S : St) (hs : List Int) (ts : List (Value × List Int)) (h : Game W w pb b r S S hs ts [] []) (hf : Fine S) (hsh : Short S) (hN : S.rows.length + 3 ≤ 100000) (hH : hs.length + 3 ≤ 100000) (hT : ts.length + 2 ≤ 100000)
    (k x y : Int) (hx : U64 x) (hy : U64 y) (u v : Value) (la lb : List Int) (hu : Rd W u la) (hv : Rd W v lb) (hla : la.length ≤ 300) (hlb : lb.length ≤ 1500) :
    Calls Try.prog 12 #[ptr pb, .agg #[.int .i64 k, .int .u64 x, .int .u64 y, u, v]] w fun e w' => e = .returned (.bool true) ∧ Step W w' pb b r S hs ts := by
  have hk : (k < 0 ∨ 8 < k) ∨ k = 0 ∨ k = 1 ∨ k = 2 ∨ k = 3 ∨ k = 4 ∨ k = 5 ∨ k = 6 ∨ k = 7 ∨ k = 8 := by omega
  rcases hk with hk | rfl | rfl | rfl | rfl | rfl | rfl | rfl | rfl | rfl
  · exact do_other W w pb b r S hs ts h hf hsh hN hH hT k x y hk hx hy u v la lb hu hv hla hlb
  · exact do_hash W w pb b r S hs ts h hf hsh hN hH hT x y hx hy u v la lb hu hv hla hlb
  · exact do_key W w pb b r S hs ts h hf hsh hN hH hT x y hx hy u v la lb hu hv hla hlb
  · exact do_pair W w pb b r S hs ts h hf hsh hN hH hT x y hx hy u v la lb hu hv hla hlb
  · exact do_sign W w pb b r S hs ts h hf hsh hN hH hT x y hx hy u v la lb hu hv hla hlb
  · exact do_verify W w pb b r S hs ts h hf hsh hN hH hT x y hx hy u v la lb hu hv hla hlb
  · exact do_seal W w pb b r S hs ts h hf hsh hN hH hT x y hx hy u v la lb hu hv hla hlb
  · exact do_open W w pb b r S hs ts h hf hsh hN hH hT x y hx hy u v la lb hu hv hla hlb
  · exact do_wrap W w pb b r S hs ts h hf hsh hN hH hT x y hx hy u v la lb hu hv hla hlb
  · exact do_unwrap W w pb b r S hs ts h hf hsh hN hH hT x y hx hy u v la lb hu hv hla hlb

/-- A step of a script as it came in. -/
structure OpRow where
  k : Int
  x : Int
  y : Int
  a : Value
  b : Value
  la : List Int
  lb : List Int
def OpRow.cells (q : OpRow) : List Value := [.int .i64 q.k, .int .u64 q.x, .int .u64 q.y, q.a, q.b]
/-- A slice of steps. -/
def RdOps (w : World) (v : Value) (n : Nat) (O : Nat → OpRow) : Prop :=
  ∃ a cap, v = .slice a n cap ∧ n ≤ cap ∧ cap ≤ maxLen ∧ (0 < n → ∃ b off, a = some ⟨b, off, none⟩ ∧ ∀ i, i < n → (∀ j u, (O i).cells[j]? = some u → w.cell? ⟨b, off + i * 5 + j, none⟩ = some u) ∧ U64 (O i).x ∧ U64 (O i).y ∧ Rd w (O i).a (O i).la ∧ Rd w (O i).b (O i).lb)
def LightP (m n : Nat) (O : Nat → OpRow) : Prop := m ≤ 100 ∧ n ≤ 60 ∧ ∀ i, i < n → (O i).la.length ≤ 300 ∧ (O i).lb.length ≤ 1500

set_option maxHeartbeats 2000000 in
theorem light_any (w : World) (dv v : Value) (ds : List Int) (n : Nat) (O : Nat → OpRow) (hd : RdU w dv ds) (hv : RdOps w v n O) :
    Calls Try.prog 9 #[dv, v] w fun e w' => (e = .returned (.bool true) ∧ LightP ds.length n O ∨ e = .returned (.bool false)) ∧ w' = w := by
  obtain ⟨_, ad, cd, rfl, hd1, hd2, _⟩ := hd
  obtain ⟨a, cap, rfl, h1, h2, h3⟩ := hv
  unfold maxLen at hd2 h2
  by_cases hds : ds.length ≤ 100
  · by_cases hn : n ≤ 60
    · have H3 : Hid (0 < n → ∃ b off, a = some ⟨b, off, none⟩ ∧ ∀ i, i < n → (∀ j u, (O i).cells[j]? = some u → w.cell? ⟨b, off + i * 5 + j, none⟩ = some u) ∧ U64 (O i).x ∧ U64 (O i).y ∧ Rd w (O i).a (O i).la ∧ Rd w (O i).b (O i).lb) := h3
      clear h3
      go_enter Try.func9, Try.ntmps9
      go_wp2
      go_loopw [5] (fun i wr => ∃ m : Nat, m ≤ n ∧ i = .int .i64 m ∧ Hid (∀ j, j < m → (O j).la.length ≤ 300 ∧ (O j).lb.length ≤ 1500) ∧ wr = w) (fun i _ => n - (intOf i).toNat)
      case atStart => exact ⟨0, by omega, rfl, (fun j hj => by omega), rfl⟩
      case round =>
        obtain ⟨m, hm, rfl, hb, rfl⟩ := hrel
        by_cases hlt : m < n
        · obtain ⟨gb, off, rfl, hc⟩ := H3.out (by omega)
          obtain ⟨hcell, _, _, ra, rb⟩ := hc m hlt
          have c3 := hcell 3 _ rfl
          have c4 := hcell 4 _ rfl
          obtain ⟨a1, k1, ea⟩ := ra.len
          obtain ⟨a2, k2, eb⟩ := rb.len
          rw [ea] at c3
          rw [eb] at c4
          have HEQ : Hid (∃ la lb : List Int, la = (O m).la ∧ lb = (O m).lb) := ⟨_, _, rfl, rfl⟩
          obtain ⟨la, lb, hla, hlb⟩ := HEQ.out
          rw [← hla] at c3
          rw [← hlb] at c4
          have HL : Hid (la = (O m).la ∧ lb = (O m).lb) := ⟨hla, hlb⟩
          clear hc hcell ra rb ea eb hla hlb HEQ
          by_cases h300 : la.length ≤ 300
          · by_cases h15 : lb.length ≤ 1500
            · go_wp2
              go_roundw
              case rel => exact ⟨m + 1, by omega, by go_num, (fun j hj => by
                by_cases e : j = m
                · subst e
                  rw [← HL.out.1, ← HL.out.2]
                  exact ⟨h300, h15⟩
                · exact hb.out j (by omega)), by first | rfl | trivial⟩
              case measure => simp [intOf]; omega
            · go_wp2
              go_ret
              exact ⟨.inr rfl, rfl⟩
          · go_wp2
            go_ret
            exact ⟨.inr rfl, rfl⟩
        · have : m = n := by omega
          subst this
          have HLP : Hid (LightP ds.length m O) := ⟨hds, hn, hb.out⟩
          go_wp2
          go_ret
          exact ⟨.inl ⟨rfl, HLP.out⟩, rfl⟩
    · go_enter Try.func9, Try.ntmps9
      go_wp2
      go_ret
      exact ⟨.inr rfl, rfl⟩
  · go_enter Try.func9, Try.ntmps9
    go_wp2
    go_ret
    exact ⟨.inr rfl, rfl⟩

/-- The game as it begins. -/
theorem game0 {W w1 : World} {b : Nat} {ft : List Nat} {ds : List Int} {dv : Value} (hA : At W w1 b ft ⟨ds, []⟩) (hd : RdU W dv ds) :
    Game W ((w1.alloc (.cells #[dv, .slice none 0 0] 32)).alloc (.cells #[ptr b, ptr w1.heap.size, .slice none 0 0, .slice none 0 0] 35)) (w1.heap.size + 1) b w1.heap.size ⟨ds, []⟩ ⟨ds, []⟩ [] [] [] [] := by
  have hb1 : Below w1.heap.size w1 (w1.alloc (.cells #[dv, .slice none 0 0] 32)) := balloc (Below.refl _ _) _
  have hb2 : Below (w1.alloc (.cells #[dv, .slice none 0 0] 32)).heap.size (w1.alloc (.cells #[dv, .slice none 0 0] 32)) ((w1.alloc (.cells #[dv, .slice none 0 0] 32)).alloc (.cells #[ptr b, ptr w1.heap.size, .slice none 0 0, .slice none 0 0] 35)) := balloc (Below.refl _ _) _
  have hb := bnext hb1 hb2
  have hs1 : (w1.alloc (.cells #[dv, .slice none 0 0] 32)).heap.size = w1.heap.size + 1 := by simp
  have hs2 : ((w1.alloc (.cells #[dv, .slice none 0 0] 32)).alloc (.cells #[ptr b, ptr w1.heap.size, .slice none 0 0, .slice none 0 0] 35)).heap.size = w1.heap.size + 2 := by simp
  have hW := hA.bel.size
  have hroom := hA.rep.room
  have B1 : Blk (w1.alloc (.cells #[dv, .slice none 0 0] 32)) w1.heap.size 32 [dv, .slice none 0 0] := heap_alloc_new w1 _
  have B2 := heap_alloc_new (w1.alloc (.cells #[dv, .slice none 0 0] 32)) (.cells #[ptr b, ptr w1.heap.size, .slice none 0 0, .slice none 0 0] 35)
  rw [hs1] at B2
  have hg := hA.rep.good
  refine ⟨ft, [w1.heap.size], [w1.heap.size + 1], [], .slice none 0 0, .slice none 0 0, hA.below hb, ⟨[], dv, .slice none 0 0, ⟨rfl, B1.below hb2, by simp, fun k hk => ?_, fun k hk => ?_, bnext hA.bel hb, hd, World.ownsRow_nil _ _ _ _, (fun k hk => by cases hk), (fun q hq => by cases hq), hg, by simp⟩⟩,
    ⟨B2, by simp, fun k hk => ?_, fun k hk => ?_, World.ownsRow_nil _ _ _ _, (fun k hk => by cases hk), World.ownsRow_nil _ _ _ _, (fun k hk => by cases hk), (fun k hk => by cases hk), (fun q hq => by cases hq), (fun q hq => by cases hq), (fun k _ hk => by cases hk)⟩, fun k hk e => ?_, fun k hk e => ?_, fun k hk e => ?_⟩
  · simp at hk; omega
  · simp at hk; omega
  · simp at hk; omega
  · simp at hk; omega
  · simp at e; have := hroom k hk; omega
  · simp at e; have := hroom k hk; omega
  · simp at hk e; omega
end

section
set_option linter.unusedVariables false
set_option synthInstance.maxSize 20000
open Classical
open Go.RowKit Go.Maps

theorem short0 (ds : List Int) : Short ⟨ds, []⟩ := fun _ _ _ _ h => by simp at h

theorem RdOps.at {W : World} {v : Value} {n : Nat} {O : Nat → OpRow} (h : RdOps W v n O) {a : Option Addr} {cap : Nat} (hv : v = .slice a n cap) {i : Nat} (hi : i < n) :
    ∃ b off k x y a1 c1 a2 c2 la lb, a = some ⟨b, off, none⟩ ∧ U64 x ∧ U64 y ∧ Rd W (.slice a1 (List.length la) c1) la ∧ Rd W (.slice a2 (List.length lb) c2) lb ∧ la = (O i).la ∧ lb = (O i).lb ∧
      ∀ w, Below W.heap.size W w → w.cell? ⟨b, off + i * 5, none⟩ = some (.int .i64 k) ∧ w.cell? ⟨b, off + i * 5 + 1, none⟩ = some (.int .u64 x) ∧ w.cell? ⟨b, off + i * 5 + 2, none⟩ = some (.int .u64 y) ∧ w.cell? ⟨b, off + i * 5 + 3, none⟩ = some (.slice a1 (List.length la) c1) ∧ w.cell? ⟨b, off + i * 5 + 4, none⟩ = some (.slice a2 (List.length lb) c2) := by
  obtain ⟨a', cap', rfl, h1, h2, h3⟩ := h
  cases hv
  obtain ⟨b, off, rfl, hc⟩ := h3 (by omega)
  obtain ⟨hcell, hx, hy, ra, rb⟩ := hc i hi
  obtain ⟨a1, c1, ea⟩ := ra.len
  obtain ⟨a2, c2, eb⟩ := rb.len
  refine ⟨b, off, (O i).k, (O i).x, (O i).y, a1, c1, a2, c2, (O i).la, (O i).lb, rfl, hx, hy, ea ▸ ra, eb ▸ rb, rfl, rfl, fun w hb => ?_⟩
  have g := fun j u (hu : (O i).cells[j]? = some u) => (below_grown hb).cell (hcell j u hu) (fun e => by cases e)
  refine ⟨g 0 _ rfl, g 1 _ rfl, g 2 _ rfl, ?_, ?_⟩
  · rw [← ea]; exact g 3 _ rfl
  · rw [← eb]; exact g 4 _ rfl

set_option maxHeartbeats 4000000 in
set_option maxRecDepth 20000 in
theorem plays_walk (W : World) (dv v : Value) (ds : List Int) (n : Nat) (O : Nat → OpRow) (hd : RdU W dv ds) (hv : RdOps W v n O) :
    Calls Try.prog 3 #[dv, v] W fun e w' => e = .returned (.bool true) ∧ Below W.heap.size W w' := by
  have HD : Hid (RdU W dv ds) := hd
  have HO : Hid (RdOps W v n O) := hv
  obtain ⟨_, ad, cd, rfl, hd1, hd2, _⟩ := hd
  obtain ⟨a, cap, rfl, h1, h2, _⟩ := hv
  unfold maxLen at hd2 h2
  go_enter Try.func3, Try.ntmps3
  go_wp2_with fail
  refine (light_any W _ _ ds n O HD.out HO.out).mono ?_
  rintro e w0 ⟨⟨rfl, hL⟩ | rfl, hw0⟩
  · replace hw0 := hw0.symm
    subst hw0
    have hl1 := hL.1
    have hl2 := hL.2.1
    have HL3 : Hid (∀ i, i < n → (O i).la.length ≤ 300 ∧ (O i).lb.length ≤ 1500) := hL.2.2
    clear hL
    go_upto_region 4 with (go_at_call 11; go_must (refine (new_at W W (Below.refl _ W) _ ds HD.out (by omega)).mono ?_; rintro e w1 ⟨b, rfl, ft, hA, hn⟩; have HG0 : Hid (Game W _ (w1.heap.size + 1) b w1.heap.size ⟨ds, []⟩ ⟨ds, []⟩ [] [] [] []) := game0 hA HD.out; clear hA hn))
    obtain ⟨w2, hw2⟩ : ∃ w2, w2 = (w1.alloc (.cells #[.slice ad ds.length cd, .slice none 0 0] 32)).alloc (.cells #[ptr b, ptr w1.heap.size, .slice none 0 0, .slice none 0 0] 35) := ⟨_, rfl⟩
    rw [← hw2] at HG0 ⊢
    generalize w1.heap.size + 1 = pb at HG0 ⊢
    generalize w1.heap.size = r at HG0 ⊢
    clear hw2
    obtain ⟨p0, p1⟩ := HG0.out.cells
    go_wp2_with (go_at_call 10; go_must (refine (alive_any _).mono ?_; rintro e w3 ⟨rfl, hb3⟩; have HG3 : Hid (Game W w3 pb b r ⟨ds, []⟩ ⟨ds, []⟩ [] [] [] []) := HG0.out.below hb3; clear hb3))
    go_loopw [6] (fun i wr => ∃ (m : Nat) (S : St) (hs : List Int) (ts : List (Value × List Int)), i = .int .i64 m ∧ m ≤ n ∧ Hid (Game W wr pb b r S S hs ts [] []) ∧ Hid (Fine S ∧ Short S) ∧ S.rows.length ≤ 2 * m ∧ hs.length ≤ 2 * m ∧ ts.length ≤ m) (fun i _ => n - (intOf i).toNat)
    case atStart => exact ⟨0, ⟨ds, []⟩, [], [], rfl, by omega, HG3, ⟨fine0 ds, short0 ds⟩, by simp, by simp, by simp⟩
    case round =>
      obtain ⟨m, S, hs, ts, rfl, hm, HG, HFS, b1, b2, b3⟩ := hrel
      clear HG0 HG3 p0 p1
      by_cases hlt : m < n
      · obtain ⟨ob, off, k, x, y, a1, c1, a2, c2, la, lb, rfl, hx, hy, ra, rb, ela, elb, hcells⟩ := HO.out.at rfl hlt
        have HRA : Hid (Rd W (.slice a1 la.length c1) la ∧ Rd W (.slice a2 lb.length c2) lb ∧ U64 x ∧ U64 y) := ⟨ra, rb, hx, hy⟩
        have hll := HL3.out m hlt
        rw [← ela, ← elb] at hll
        obtain ⟨hla, hlb⟩ := hll
        have HC : Hid (∀ w, Below W.heap.size W w → w.cell? ⟨ob, off + m * 5, none⟩ = some (.int .i64 k) ∧ w.cell? ⟨ob, off + m * 5 + 1, none⟩ = some (.int .u64 x) ∧ w.cell? ⟨ob, off + m * 5 + 2, none⟩ = some (.int .u64 y) ∧ w.cell? ⟨ob, off + m * 5 + 3, none⟩ = some (.slice a1 la.length c1) ∧ w.cell? ⟨ob, off + m * 5 + 4, none⟩ = some (.slice a2 lb.length c2)) := hcells
        have hmi : (m : Int) < (n : Int) := by omega
        clear hcells ra rb hx hy ela elb
        go_upto_region 9 with fail
        have q0 := fun z : WIn (fun w' => Below wr.heap.size wr w') => (HC.out z.w (bnext HG.out.bel z.ok)).1
        have q1 := fun z : WIn (fun w' => Below wr.heap.size wr w') => (HC.out z.w (bnext HG.out.bel z.ok)).2.1
        have q2 := fun z : WIn (fun w' => Below wr.heap.size wr w') => (HC.out z.w (bnext HG.out.bel z.ok)).2.2.1
        have q3 := fun z : WIn (fun w' => Below wr.heap.size wr w') => (HC.out z.w (bnext HG.out.bel z.ok)).2.2.2.1
        have q4 := fun z : WIn (fun w' => Below wr.heap.size wr w') => (HC.out z.w (bnext HG.out.bel z.ok)).2.2.2.2
        have ne2 : Nonempty (WIn (fun w' => Below wr.heap.size wr w')) := ⟨⟨wr, Below.refl _ _⟩⟩
        refine wp_region_three (C := fun w' => ∃ z : WIn (fun w' => Below wr.heap.size wr w'), w' = z.w) 5 (by kernel_rfl) (by kernel_rfl) rfl rfl ⟨⟨wr.drew, (Below.refl _ _).drew⟩, rfl⟩ ?_
        simp only [List.take_succ_cons, List.take_zero, List.drop_succ_cons, List.drop_zero]
        repeat (go_big_quiet_step (fail))
        refine wpQuiet_nil ?_
        rintro w4a ⟨⟨w4, ok4⟩, rfl⟩
        go_simp
        refine (do_any W _ pb b r S hs ts (HG.out.below ok4) HFS.out.1 HFS.out.2 (by omega) (by omega) (by omega) k x y HRA.out.2.2.1 HRA.out.2.2.2 _ _ la lb HRA.out.1 HRA.out.2.1 hla hlb).mono ?_
        rintro e w5 ⟨rfl, S', hs', ts', g5, f5, s5, l1, l2, l3⟩
        have HG5 : Hid (Game W w5 pb b r S' S' hs' ts' [] []) := g5
        have HF5 : Hid (Fine S' ∧ Short S') := ⟨f5, s5⟩
        obtain ⟨p0, p1⟩ := g5.cells
        obtain ⟨ra', rc', r1⟩ := g5.refrows
        clear g5 f5 s5 q0 q1 q2 q3 q4 ne2 ok4
        dsimp only
        go_simp
        repeat (go_big_quiet_step (fail))
        go_big_quiet_want
        go_big_quiet_op
        refine ⟨.int .i64 S'.rows.length, (gused HG5.out).mono (fun _ _ h => h), ?_⟩
        go_big_quiet_on
        repeat (go_big_quiet_step (fail))
        refine wpQuiet_nil ?_
        go_wp2
        go_roundw
        case rel => exact ⟨m + 1, S', hs', ts', by go_num, by omega, HG5, HF5, by omega, by omega, by omega⟩
        case measure => simp [intOf]; omega
      · go_wp2
        go_ret
        exact ⟨rfl, HG.out.bel⟩
  · replace hw0 := hw0.symm
    subst hw0
    go_wp2_with (go_at_call 10; go_must (refine (alive_any _).mono ?_; rintro e w12 ⟨rfl, hb12⟩))
    go_ret
    exact ⟨rfl, hb12⟩
end
end Go.Proofs.Ytcacioogklgahaa
