/-
  The calls of both oracles, told of the whole game.
-/
import Derived.Test.YtakmfdlcnodmmaaPlay
namespace Go.Proofs.Ytakmfdlcnodmmaa
set_option linter.unusedVariables false
open Go.RowKit Go.Maps

section
variable {W w : World} {pb b r : Nat} {S T : St} {hs : List Int} {ts xs : List (Value × List Int)} {bs : List (Nat × List Value)}

/-! ### the program's -/
theorem ghash (h : Game W w pb b r S T hs ts xs bs) (hN : S.rows.length + 1 ≤ 100000) {v : Value} {l : List Int} (hv : Rd W v l) (hl : l.length ≤ 1000000) :
    Calls Try.prog 14 #[ptr b, v] w fun e w' => e = .returned (.int .u64 (S.get (.hash l)).1) ∧ Game W w' pb b r (S.get (.hash l)).2 T hs ts xs bs := by
  obtain ⟨ft, fr, fp, fx, hv', tv, g⟩ := h
  refine (hash_all w b ft S g.o.rep (by omega) v l (g.o.rds hv) hl).mono ?_
  rintro e w' ⟨rfl, hl⟩
  obtain ⟨ft', a, o, t⟩ := g.o.left hl
  exact ⟨rfl, ft', fr, fp, fx, _, _, g.oStep a o t⟩
theorem gkey (h : Game W w pb b r S T hs ts xs bs) (hN : S.rows.length + 1 ≤ 100000) :
    Calls Try.prog 16 #[ptr b] w fun e w' => e = .returned (.int .u64 S.fresh) ∧ Game W w' pb b r (S.put .key) T hs ts xs bs := by
  obtain ⟨ft, fr, fp, fx, hv', tv, g⟩ := h
  refine (key_any w b ft S g.o.rep (by omega)).mono ?_
  rintro e w' ⟨rfl, hl⟩
  obtain ⟨ft', a, o, t⟩ := g.o.left hl
  exact ⟨rfl, ft', fr, fp, fx, _, _, g.oStep a o t⟩
theorem gpair (h : Game W w pb b r S T hs ts xs bs) (hN : S.rows.length + 2 ≤ 100000) :
    Calls Try.prog 21 #[ptr b] w fun e w' => e = .returned (.tuple #[.int .u64 S.fresh, .int .u64 (S.put .secret).fresh]) ∧ Game W w' pb b r S.pair T hs ts xs bs := by
  obtain ⟨ft, fr, fp, fx, hv', tv, g⟩ := h
  refine (pair_any w b ft S g.o.rep (by omega)).mono ?_
  rintro e w' ⟨rfl, hl⟩
  obtain ⟨ft', a, o, t⟩ := g.o.left hl
  exact ⟨rfl, ft', fr, fp, fx, _, _, g.oStep a o t⟩
theorem gsign (h : Game W w pb b r S T hs ts xs bs) (hN : S.rows.length + 1 ≤ 100000) {s : Int} (hs' : U64 s) {v : Value} {l : List Int} (hv : Rd W v l) (hl : l.length ≤ 900000) :
    Calls Try.prog 22 #[ptr b, .int .u64 s, v] w fun e w' => e = .returned (.tuple #[.int .u64 (S.sign s l).1.1, .int .i64 (S.sign s l).1.2]) ∧ Game W w' pb b r (S.sign s l).2 T hs ts xs bs := by
  obtain ⟨ft, fr, fp, fx, hv', tv, g⟩ := h
  refine (sign_any w b ft S g.o.rep (by omega) s hs' v l (g.o.rd hv) hl).mono ?_
  rintro e w' ⟨rfl, hl⟩
  obtain ⟨ft', a, o, t⟩ := g.o.left hl
  exact ⟨rfl, ft', fr, fp, fx, _, _, g.oStep a o t⟩
theorem gverify (h : Game W w pb b r S T hs ts xs bs) {p : Int} (hp : U64 p) {v : Value} {l : List Int} (hv : Rd W v l) (hl : l.length ≤ 900000) (q : Int) :
    Calls Try.prog 23 #[ptr b, .int .u64 p, v, .int .u64 q] w fun e w' => e = .returned (.bool (S.verify p l q)) ∧ Below w.heap.size w w' := by
  obtain ⟨ft, fr, fp, fx, hv', tv, g⟩ := h
  exact verify_any w b ft S g.o.rep p hp v l (g.o.rd hv) hl q
theorem gseal (h : Game W w pb b r S T hs ts xs bs) (hN : S.rows.length + 1 ≤ 100000) {k : Int} (hk : U64 k) {u v : Value} {bd pl : List Int} (hu : Rd W u bd) (hv : Rd W v pl) (hl : pl.length ≤ 1000000) :
    Calls Try.prog 17 #[ptr b, .int .u64 k, u, v] w fun e w' => ∃ v', e = .returned (.tuple #[v', .int .i64 (S.seal k bd pl).1.2]) ∧ Game W w' pb b r (S.seal k bd pl).2 T hs ts ((v', (S.seal k bd pl).1.1) :: xs) bs := by
  obtain ⟨ft, fr, fp, fx, hv', tv, g⟩ := h
  refine (seal_any w b ft S g.o.rep (by omega) k hk u bd (g.o.rd hu) v pl (g.o.rd hv) hl).mono ?_
  rintro e w' ⟨v', rfl, hl⟩
  obtain ⟨ft', a, rd, q, o, t, n⟩ := g.o.leftB hl
  refine ⟨v', rfl, (g.oStep a o t).hold rd fun k hk => ?_⟩
  have := (n k hk).1
  have := g.o.bel.size
  exact ⟨by omega, (n k hk).2, q k hk, fun e => by have := g.m.room k e; omega, fun e => by have := g.p.room k (by simp [e]); omega⟩
theorem gwrap (h : Game W w pb b r S T hs ts xs bs) (hN : S.rows.length + 1 ≤ 100000) {p k : Int} (hp : U64 p) (hk : U64 k) :
    Calls Try.prog 24 #[ptr b, .int .u64 p, .int .u64 k] w fun e w' => ∃ v', e = .returned (.tuple #[v', .int .i64 (S.wrap p k).1.2]) ∧ Game W w' pb b r (S.wrap p k).2 T hs ts ((v', (S.wrap p k).1.1) :: xs) bs := by
  obtain ⟨ft, fr, fp, fx, hv', tv, g⟩ := h
  refine (wrap_any w b ft S g.o.rep (by omega) p hp k hk).mono ?_
  rintro e w' ⟨v', rfl, hl⟩
  obtain ⟨ft', a, rd, q, o, t, n⟩ := g.o.leftB hl
  refine ⟨v', rfl, (g.oStep a o t).hold rd fun k hk => ?_⟩
  have := (n k hk).1
  have := g.o.bel.size
  exact ⟨by omega, (n k hk).2, q k hk, fun e => by have := g.m.room k e; omega, fun e => by have := g.p.room k (by simp [e]); omega⟩
theorem gopen (h : Game W w pb b r S T hs ts xs bs) (k : Int) {u v : Value} {bd l : List Int} (hu : Rd W u bd) (hv : Rd w v l) (hlen : ∀ k b p, S.find l = some (.seal k b p) → p.length ≤ 1000000) :
    Calls Try.prog 19 #[ptr b, .int .u64 k, u, v] w fun e w' => ∃ v', e = .returned (.tuple #[v', .int .i64 (S.open k bd l).2]) ∧ Rd w' v' (S.open k bd l).1 ∧ Below w.heap.size w w' := by
  obtain ⟨ft, fr, fp, fx, hv', tv, g⟩ := h
  refine (open_any w b ft S g.o.rep k u bd (g.o.rd hu) v l hv hlen).mono ?_
  rintro e w' ⟨v', rfl, rd, hb, _⟩
  exact ⟨v', rfl, rd, hb⟩
theorem gunwrap (h : Game W w pb b r S T hs ts xs bs) (s : Int) {v : Value} {l : List Int} (hv : Rd w v l) :
    Calls Try.prog 25 #[ptr b, .int .u64 s, v] w fun e w' => e = .returned (.tuple #[.int .u64 (S.unwrap s l).1, .int .i64 (S.unwrap s l).2]) ∧ Below w.heap.size w w' := by
  obtain ⟨ft, fr, fp, fx, hv', tv, g⟩ := h
  exact unwrap_any w b ft S g.o.rep s v l hv
theorem gused (h : Game W w pb b r S T hs ts xs bs) : Calls Try.prog 13 #[ptr b] w fun e w' => e = .returned (.int .i64 S.rows.length) ∧ w' = w := by
  obtain ⟨ft, fr, fp, fx, hv', tv, g⟩ := h
  exact used_any w b ft S g.o.rep

/-! ### the reference's -/
theorem mhash (h : Game W w pb b r S T hs ts xs bs) (hN : T.rows.length + 1 ≤ 100000) {v : Value} {l : List Int} (hv : Rd W v l) :
    Calls Try.prog 27 #[ptr r, v] w fun e w' => e = .returned (.int .u64 (T.get (.hash l)).1) ∧ Game W w' pb b r S (T.get (.hash l)).2 hs ts xs bs := by
  obtain ⟨ft, fr, fp, fx, hv', tv, g⟩ := h
  refine (rhash_any W w r fr T g.m hN v l hv).mono ?_
  rintro e w' ⟨rfl, ⟨fr', a, o⟩, t⟩
  exact ⟨rfl, ft, fr', fp, fx, _, _, g.mStep a o t⟩
theorem mkey (h : Game W w pb b r S T hs ts xs bs) (hN : T.rows.length + 1 ≤ 100000) :
    Calls Try.prog 29 #[ptr r] w fun e w' => e = .returned (.int .u64 T.fresh) ∧ Game W w' pb b r S (T.put .key) hs ts xs bs := by
  obtain ⟨ft, fr, fp, fx, hv', tv, g⟩ := h
  refine (rkey_any W w r fr T g.m hN).mono ?_
  rintro e w' ⟨rfl, ⟨fr', a, o⟩, t⟩
  exact ⟨rfl, ft, fr', fp, fx, _, _, g.mStep a o t⟩
theorem mpair (h : Game W w pb b r S T hs ts xs bs) (hN : T.rows.length + 2 ≤ 100000) :
    Calls Try.prog 30 #[ptr r] w fun e w' => e = .returned (.tuple #[.int .u64 T.fresh, .int .u64 (T.put .secret).fresh]) ∧ Game W w' pb b r S T.pair hs ts xs bs := by
  obtain ⟨ft, fr, fp, fx, hv', tv, g⟩ := h
  refine (rpair_any W w r fr T g.m hN).mono ?_
  rintro e w' ⟨rfl, ⟨fr', a, o⟩, t⟩
  exact ⟨rfl, ft, fr', fp, fx, _, _, g.mStep a o t⟩
theorem msign (h : Game W w pb b r S T hs ts xs bs) (hN : T.rows.length + 1 ≤ 100000) (s : Int) {v : Value} {l : List Int} (hv : Rd W v l) :
    Calls Try.prog 32 #[ptr r, .int .u64 s, v] w fun e w' => e = .returned (.tuple #[.int .u64 (T.sign s l).1.1, .int .i64 (T.sign s l).1.2]) ∧ Game W w' pb b r S (T.sign s l).2 hs ts xs bs := by
  obtain ⟨ft, fr, fp, fx, hv', tv, g⟩ := h
  refine (rsign_any W w r fr T g.m hN s v l hv).mono ?_
  rintro e w' ⟨rfl, ⟨fr', a, o⟩, t⟩
  exact ⟨rfl, ft, fr', fp, fx, _, _, g.mStep a o t⟩
theorem mverify (h : Game W w pb b r S T hs ts xs bs) (hf : Fine T) (p : Int) {v : Value} {l : List Int} (hv : Rd W v l) (q : Int) :
    Calls Try.prog 33 #[ptr r, .int .u64 p, v, .int .u64 q] w fun e w' => e = .returned (.bool (T.verify p l q)) ∧ Below w.heap.size w w' := by
  obtain ⟨ft, fr, fp, fx, hv', tv, g⟩ := h
  exact rverify_any W w r fr T g.m hf p v l hv q
theorem mseal (h : Game W w pb b r S T hs ts xs bs) (hN : T.rows.length + 1 ≤ 100000) (k : Int) {u v : Value} {bd pl : List Int} (hu : Rd W u bd) (hv : Rd W v pl) (hl : pl.length ≤ 1000000) :
    Calls Try.prog 34 #[ptr r, .int .u64 k, u, v] w fun e w' => ∃ v', e = .returned (.tuple #[v', .int .i64 (T.seal k bd pl).1.2]) ∧ Game W w' pb b r S (T.seal k bd pl).2 hs ts ((v', (T.seal k bd pl).1.1) :: xs) bs := by
  obtain ⟨ft, fr, fp, fx, hv', tv, g⟩ := h
  refine (rseal_any W w r fr T g.m hN k u bd hu v pl hv hl).mono ?_
  rintro e w' ⟨v', rfl, rd, ⟨fr', a, o, q⟩, t, n⟩
  refine ⟨v', rfl, (g.mStep a o t).hold rd fun k hk => ?_⟩
  have := (n k hk).1
  have := g.o.bel.size
  exact ⟨by omega, (n k hk).2, fun e => by have := g.o.rep.room k e; omega, q k hk, fun e => by have := g.p.room k (by simp [e]); omega⟩
theorem mwrap (h : Game W w pb b r S T hs ts xs bs) (hN : T.rows.length + 1 ≤ 100000) (p k : Int) :
    Calls Try.prog 35 #[ptr r, .int .u64 p, .int .u64 k] w fun e w' => ∃ v', e = .returned (.tuple #[v', .int .i64 (T.wrap p k).1.2]) ∧ Game W w' pb b r S (T.wrap p k).2 hs ts ((v', (T.wrap p k).1.1) :: xs) bs := by
  obtain ⟨ft, fr, fp, fx, hv', tv, g⟩ := h
  refine (rwrap_any W w r fr T g.m hN p k).mono ?_
  rintro e w' ⟨v', rfl, rd, ⟨fr', a, o, q⟩, t, n⟩
  refine ⟨v', rfl, (g.mStep a o t).hold rd fun k hk => ?_⟩
  have := (n k hk).1
  have := g.o.bel.size
  exact ⟨by omega, (n k hk).2, fun e => by have := g.o.rep.room k e; omega, q k hk, fun e => by have := g.p.room k (by simp [e]); omega⟩
theorem mopen (h : Game W w pb b r S T hs ts xs bs) (k : Int) {u v : Value} {bd l : List Int} (hu : Rd W u bd) (hv : Rd w v l) :
    Calls Try.prog 37 #[ptr r, .int .u64 k, u, v] w fun e w' => ∃ v', e = .returned (.tuple #[v', .int .i64 (T.open k bd l).2]) ∧ Rd w' v' (T.open k bd l).1 ∧ Below w.heap.size w w' := by
  have hb0 := h.bel
  obtain ⟨ft, fr, fp, fx, hv', tv, g⟩ := h
  refine (ropen_any W w r fr T g.m k u bd hu v l hv).mono ?_
  rintro e w' ⟨v', rfl, rd, hb⟩
  exact ⟨v', rfl, rd.below (bnext hb0 hb), hb⟩
theorem munwrap (h : Game W w pb b r S T hs ts xs bs) (hf : Fine T) (s : Int) {v : Value} {l : List Int} (hv : Rd w v l) :
    Calls Try.prog 38 #[ptr r, .int .u64 s, v] w fun e w' => e = .returned (.tuple #[.int .u64 (T.unwrap s l).1, .int .i64 (T.unwrap s l).2]) ∧ Below w.heap.size w w' := by
  obtain ⟨ft, fr, fp, fx, hv', tv, g⟩ := h
  exact runwrap_any W w r fr T g.m hf s v l hv
theorem Game.goods (h : Game W w pb b r S T hs ts xs bs) : Good S ∧ Good T := by
  obtain ⟨ft, fr, fp, fx, hv', tv, g⟩ := h
  exact ⟨g.o.rep.good, g.m.good⟩
/-- The reference's rows in memory. -/
theorem Game.refrows (h : Game W w pb b r S T hs ts xs bs) : ∃ a cap, w.cell? ⟨r, 1, none⟩ = some (.slice a T.rows.length cap) := by
  obtain ⟨ft, fr, fp, fx, hv', tv, g⟩ := h
  obtain ⟨R, dv, lv, ro⟩ := g.m
  obtain ⟨a, cap, e, _⟩ := slice_of_own ro.own
  exact ⟨a, cap, by rw [ro.blk.cell 1 _ rfl, e, ro.len]⟩
end

/-! ### the player's own -/
def pickOf (hs : List Int) (n : Int) : Int := if n < hs.length then hs.getD (hs.length - 1 - n.toNat) 0 else n

set_option maxHeartbeats 1000000 in
theorem pick_any {W w : World} {pb b r : Nat} {S T : St} {hs : List Int} {ts xs : List (Value × List Int)} {bs : List (Nat × List Value)} (h : Game W w pb b r S T hs ts xs bs) (hfew : hs.length ≤ 100000) (n : Int) (hn : U64 n) :
    Calls Try.prog 31 #[ptr pb, .int .u64 n] w fun e w' => e = .returned (.int .u64 (pickOf hs n)) ∧ w' = w := by
  obtain ⟨ft, fr, fp, fx, hv, tv, g⟩ := h
  have c2 := g.p.blk.cell 2 _ rfl
  have hown := g.p.hown
  obtain ⟨a, cap, rfl, hl1, hl2⟩ := slice_of_own hown
  clear g
  unfold U64 at hn
  unfold pickOf
  by_cases hlt : n < hs.length
  · rw [if_pos hlt]
    obtain ⟨m, rfl⟩ := Int.eq_ofNat_of_zero_le hn.1
    have hm : m < hs.length := by omega
    obtain ⟨i, hi⟩ : ∃ i, hs.length - 1 - m = i := ⟨_, rfl⟩
    have hil : i < hs.length := by omega
    have hcell : ∃ gb, a = some ⟨gb, 0, none⟩ ∧ w.cell? ⟨gb, i, none⟩ = some (.int .u64 (hs.getD i 0)) := by
      have hc := hown
      rcases hown with ⟨h1, ⟨e, h2⟩ | ⟨gb, cap', cur, e, h3, h4, h5⟩⟩
      · omega
      · cases e
        refine ⟨gb, rfl, ?_⟩
        have := hc.cells (g := gb) rfl i _ (csU_at hs i hil)
        rwa [Addr.add_lit, Nat.zero_add] at this
    obtain ⟨gb, rfl, hcell⟩ := hcell
    have e1 : IntKind.u64.wrap ((hs.length : Int) - 1) = (hs.length : Int) - 1 := wraps_u64 _ (by omega) (by omega)
    have e2 : IntKind.u64.wrap ((hs.length : Int) - 1 - (m : Int)) = (i : Int) := by rw [wraps_u64 _ (by omega) (by omega)]; omega
    have e3 : IntKind.u64.wrap (hs.length : Int) = (hs.length : Int) := wraps_u64 _ (by omega) (by omega)
    have hmi : (m : Int) < (hs.length : Int) := hlt
    simp only [Int.toNat_natCast, hi]
    generalize hs.getD i 0 = z at hcell ⊢
    clear hown hi hm hlt
    go_enter Try.func31, Try.ntmps31
    go_wp2
    go_ret
    exact ⟨rfl, rfl⟩
  · rw [if_neg hlt]
    have e3 : IntKind.u64.wrap (hs.length : Int) = (hs.length : Int) := wraps_u64 _ (by omega) (by omega)
    clear hown
    go_enter Try.func31, Try.ntmps31
    go_wp2
    go_ret
    exact ⟨rfl, rfl⟩
theorem pick_U64 {hs : List Int} (hU : ∀ h ∈ hs, U64 h) {n : Int} (hn : U64 n) : U64 (pickOf hs n) := by
  unfold pickOf
  split
  · rename_i h
    rw [List.getD_eq_getElem?_getD]
    cases e : hs[hs.length - 1 - n.toNat]? with
    | none => simp [U64]
    | some x => exact hU x (List.mem_of_getElem? e)
  · exact hn
end Go.Proofs.Ytakmfdlcnodmmaa
