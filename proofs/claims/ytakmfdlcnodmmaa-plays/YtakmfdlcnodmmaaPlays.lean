/-
  Whatever a script calls, both oracles answer alike: the walk of the law.
-/
import Derived.Test.YtakmfdlcnodmmaaDo0
import Derived.Test.YtakmfdlcnodmmaaDo1
import Derived.Test.YtakmfdlcnodmmaaDo2
import Derived.Test.YtakmfdlcnodmmaaDo3
import Derived.Test.YtakmfdlcnodmmaaDo4
import Derived.Test.YtakmfdlcnodmmaaDo6
import Derived.Test.YtakmfdlcnodmmaaDo7
import Derived.Test.YtakmfdlcnodmmaaDo8
import Derived.Test.YtakmfdlcnodmmaaDo9
namespace Go.Proofs.Ytakmfdlcnodmmaa
set_option linter.unusedVariables false
open Go.RowKit Go.Maps

theorem do_any (W w : World) (pb b r : Nat) (S : St) (hs : List Int) (ts : List (Value × List Int)) (h : Game W w pb b r S S hs ts [] []) (hf : Fine S) (hsh : Short S) (hN : S.rows.length + 3 ≤ 100000) (hH : hs.length + 3 ≤ 100000) (hT : ts.length + 2 ≤ 100000)
    (k x y : Int) (hx : U64 x) (hy : U64 y) (u v : Value) (la lb : List Int) (hu : Rd W u la) (hv : Rd W v lb) (hla : la.length ≤ 300) (hlb : lb.length ≤ 1500) :
    Calls Try.prog 12 #[ptr pb, .agg #[.int .i64 k, .int .u64 x, .int .u64 y, u, v]] w fun e w' => e = .returned (.bool true) ∧ Step W w' pb b r S hs ts := by
  have hk : (k < 0 ∨ 8 < k) ∨ k = 0 ∨ k = 1 ∨ k = 2 ∨ k = 3 ∨ k = 4 ∨ k = 5 ∨ k = 6 ∨ k = 7 ∨ k = 8 := by omega
  rcases hk with hk | rfl | rfl | rfl | rfl | rfl | rfl | rfl | rfl | rfl
  · exact do_other W w pb b r S hs ts h hf hsh hN hH hT k x y hk hx hy u v la lb hu hv hla hlb
  · exact do_hash W w pb b r S hs ts h hf hsh hN hH hT x y hx hy u v la lb hu hv hla hlb
  · exact do_key W w pb b r S hs ts h hf hsh hN hH hT x y hx hy u v la lb hu hv hla hlb
  · exact do_pair W w pb b r S hs ts h hf hsh hN hH hT x y hx hy u v la lb hu hv hla hlb
  · exact do_sign W w pb b r S hs ts h hf hsh hN hH hT x y hx hy u v la lb hu hv hla hlb
  · exact do_verify W w pb b r S hs ts h hf hsh hN hH hT x y hx hy u v la lb hu hv hla hlb
  · exact do_seal W w pb b r S hs ts h hf hsh hN hH hT x y hx hy u v la lb hu hv hla hlb
  · exact do_open W w pb b r S hs ts h hf hsh hN hH hT x y hx hy u v la lb hu hv hla hlb
  · exact do_wrap W w pb b r S hs ts h hf hsh hN hH hT x y hx hy u v la lb hu hv hla hlb
  · exact do_unwrap W w pb b r S hs ts h hf hsh hN hH hT x y hx hy u v la lb hu hv hla hlb

/-- A step of a script as it came in. -/
structure OpRow where
  k : Int
  x : Int
  y : Int
  a : Value
  b : Value
  la : List Int
  lb : List Int
def OpRow.cells (q : OpRow) : List Value := [.int .i64 q.k, .int .u64 q.x, .int .u64 q.y, q.a, q.b]
/-- A slice of steps. -/
def RdOps (w : World) (v : Value) (n : Nat) (O : Nat → OpRow) : Prop :=
  ∃ a cap, v = .slice a n cap ∧ n ≤ cap ∧ cap ≤ maxLen ∧ (0 < n → ∃ b off, a = some ⟨b, off, none⟩ ∧ ∀ i, i < n → (∀ j u, (O i).cells[j]? = some u → w.cell? ⟨b, off + i * 5 + j, none⟩ = some u) ∧ U64 (O i).x ∧ U64 (O i).y ∧ Rd w (O i).a (O i).la ∧ Rd w (O i).b (O i).lb)
def LightP (m n : Nat) (O : Nat → OpRow) : Prop := m ≤ 100 ∧ n ≤ 60 ∧ ∀ i, i < n → (O i).la.length ≤ 300 ∧ (O i).lb.length ≤ 1500

set_option maxHeartbeats 2000000 in
theorem light_any (w : World) (dv v : Value) (ds : List Int) (n : Nat) (O : Nat → OpRow) (hd : RdU w dv ds) (hv : RdOps w v n O) :
    Calls Try.prog 9 #[dv, v] w fun e w' => (e = .returned (.bool true) ∧ LightP ds.length n O ∨ e = .returned (.bool false)) ∧ w' = w := by
  obtain ⟨_, ad, cd, rfl, hd1, hd2, _⟩ := hd
  obtain ⟨a, cap, rfl, h1, h2, h3⟩ := hv
  unfold maxLen at hd2 h2
  by_cases hds : ds.length ≤ 100
  · by_cases hn : n ≤ 60
    · have H3 : Hid (0 < n → ∃ b off, a = some ⟨b, off, none⟩ ∧ ∀ i, i < n → (∀ j u, (O i).cells[j]? = some u → w.cell? ⟨b, off + i * 5 + j, none⟩ = some u) ∧ U64 (O i).x ∧ U64 (O i).y ∧ Rd w (O i).a (O i).la ∧ Rd w (O i).b (O i).lb) := h3
      clear h3
      go_enter Try.func9, Try.ntmps9
      go_wp2
      go_loopw [5] (fun i wr => ∃ m : Nat, m ≤ n ∧ i = .int .i64 m ∧ Hid (∀ j, j < m → (O j).la.length ≤ 300 ∧ (O j).lb.length ≤ 1500) ∧ wr = w) (fun i _ => n - (intOf i).toNat)
      case atStart => exact ⟨0, by omega, rfl, (fun j hj => by omega), rfl⟩
      case round =>
        obtain ⟨m, hm, rfl, hb, rfl⟩ := hrel
        by_cases hlt : m < n
        · obtain ⟨gb, off, rfl, hc⟩ := H3.out (by omega)
          obtain ⟨hcell, _, _, ra, rb⟩ := hc m hlt
          have c3 := hcell 3 _ rfl
          have c4 := hcell 4 _ rfl
          obtain ⟨a1, k1, ea⟩ := ra.len
          obtain ⟨a2, k2, eb⟩ := rb.len
          rw [ea] at c3
          rw [eb] at c4
          have HEQ : Hid (∃ la lb : List Int, la = (O m).la ∧ lb = (O m).lb) := ⟨_, _, rfl, rfl⟩
          obtain ⟨la, lb, hla, hlb⟩ := HEQ.out
          rw [← hla] at c3
          rw [← hlb] at c4
          have HL : Hid (la = (O m).la ∧ lb = (O m).lb) := ⟨hla, hlb⟩
          clear hc hcell ra rb ea eb hla hlb HEQ
          by_cases h300 : la.length ≤ 300
          · by_cases h15 : lb.length ≤ 1500
            · go_wp2
              go_roundw
              case rel => exact ⟨m + 1, by omega, by go_num, (fun j hj => by
                by_cases e : j = m
                · subst e
                  rw [← HL.out.1, ← HL.out.2]
                  exact ⟨h300, h15⟩
                · exact hb.out j (by omega)), by first | rfl | trivial⟩
              case measure => simp [intOf]; omega
            · go_wp2
              go_ret
              exact ⟨.inr rfl, rfl⟩
          · go_wp2
            go_ret
            exact ⟨.inr rfl, rfl⟩
        · have : m = n := by omega
          subst this
          have HLP : Hid (LightP ds.length m O) := ⟨hds, hn, hb.out⟩
          go_wp2
          go_ret
          exact ⟨.inl ⟨rfl, HLP.out⟩, rfl⟩
    · go_enter Try.func9, Try.ntmps9
      go_wp2
      go_ret
      exact ⟨.inr rfl, rfl⟩
  · go_enter Try.func9, Try.ntmps9
    go_wp2
    go_ret
    exact ⟨.inr rfl, rfl⟩

/-- The game as it begins. -/
theorem game0 {W w1 : World} {b : Nat} {ft : List Nat} {ds : List Int} {dv : Value} (hA : At W w1 b ft ⟨ds, []⟩) (hd : RdU W dv ds) :
    Game W ((w1.alloc (.cells #[dv, .slice none 0 0] 32)).alloc (.cells #[ptr b, ptr w1.heap.size, .slice none 0 0, .slice none 0 0] 35)) (w1.heap.size + 1) b w1.heap.size ⟨ds, []⟩ ⟨ds, []⟩ [] [] [] [] := by
  have hb1 : Below w1.heap.size w1 (w1.alloc (.cells #[dv, .slice none 0 0] 32)) := balloc (Below.refl _ _) _
  have hb2 : Below (w1.alloc (.cells #[dv, .slice none 0 0] 32)).heap.size (w1.alloc (.cells #[dv, .slice none 0 0] 32)) ((w1.alloc (.cells #[dv, .slice none 0 0] 32)).alloc (.cells #[ptr b, ptr w1.heap.size, .slice none 0 0, .slice none 0 0] 35)) := balloc (Below.refl _ _) _
  have hb := bnext hb1 hb2
  have hs1 : (w1.alloc (.cells #[dv, .slice none 0 0] 32)).heap.size = w1.heap.size + 1 := by simp
  have hs2 : ((w1.alloc (.cells #[dv, .slice none 0 0] 32)).alloc (.cells #[ptr b, ptr w1.heap.size, .slice none 0 0, .slice none 0 0] 35)).heap.size = w1.heap.size + 2 := by simp
  have hW := hA.bel.size
  have hroom := hA.rep.room
  have B1 : Blk (w1.alloc (.cells #[dv, .slice none 0 0] 32)) w1.heap.size 32 [dv, .slice none 0 0] := heap_alloc_new w1 _
  have B2 := heap_alloc_new (w1.alloc (.cells #[dv, .slice none 0 0] 32)) (.cells #[ptr b, ptr w1.heap.size, .slice none 0 0, .slice none 0 0] 35)
  rw [hs1] at B2
  have hg := hA.rep.good
  refine ⟨ft, [w1.heap.size], [w1.heap.size + 1], [], .slice none 0 0, .slice none 0 0, hA.below hb, ⟨[], dv, .slice none 0 0, ⟨rfl, B1.below hb2, by simp, fun k hk => ?_, fun k hk => ?_, bnext hA.bel hb, hd, World.ownsRow_nil _ _ _ _, (fun k hk => by cases hk), (fun q hq => by cases hq), hg, by simp⟩⟩,
    ⟨B2, by simp, fun k hk => ?_, fun k hk => ?_, World.ownsRow_nil _ _ _ _, (fun k hk => by cases hk), World.ownsRow_nil _ _ _ _, (fun k hk => by cases hk), (fun k hk => by cases hk), (fun q hq => by cases hq), (fun q hq => by cases hq), (fun k _ hk => by cases hk)⟩, fun k hk e => ?_, fun k hk e => ?_, fun k hk e => ?_⟩
  · simp at hk; omega
  · simp at hk; omega
  · simp at hk; omega
  · simp at hk; omega
  · simp at e; have := hroom k hk; omega
  · simp at e; have := hroom k hk; omega
  · simp at hk e; omega
end Go.Proofs.Ytakmfdlcnodmmaa
