/-
  The calls of both oracles, told of the whole game.
  What the player does by itself: it tells handles and texts, and picks them.
-/
import Derived.Test.YtcacioogklgahaaPlay
import Derived.Maps.AppendAt
import Derived.Deep.QuietTactic
import Derived.BigQuiet
namespace Go.Proofs.Ytcacioogklgahaa
section
set_option linter.unusedVariables false
set_option synthInstance.maxSize 20000
open Classical
open Go.RowKit Go.Maps

section
variable {W w : World} {pb b r : Nat} {S T : St} {hs : List Int} {ts xs : List (Value × List Int)} {bs : List (Nat × List Value)}

/-! ### the program's -/
theorem ghash (h : Game W w pb b r S T hs ts xs bs) (hN : S.rows.length + 1 ≤ 100000) {v : Value} {l : List Int} (hv : Rd W v l) (hl : l.length ≤ 1000000) :
    Calls Try.prog 14 #[ptr b, v] w fun e w' => e = .returned (.int .u64 (S.get (.hash l)).1) ∧ Game W w' pb b r (S.get (.hash l)).2 T hs ts xs bs := by
  obtain ⟨ft, fr, fp, fx, hv', tv, g⟩ := h
  refine (hash_all w b ft S g.o.rep (by omega) v l (g.o.rds hv) hl).mono ?_
  rintro e w' ⟨rfl, hl⟩
  obtain ⟨ft', a, o, t⟩ := g.o.left hl
  exact ⟨rfl, ft', fr, fp, fx, _, _, g.oStep a o t⟩
theorem gkey (h : Game W w pb b r S T hs ts xs bs) (hN : S.rows.length + 1 ≤ 100000) :
    Calls Try.prog 16 #[ptr b] w fun e w' => e = .returned (.int .u64 S.fresh) ∧ Game W w' pb b r (S.put .key) T hs ts xs bs := by
  obtain ⟨ft, fr, fp, fx, hv', tv, g⟩ := h
  refine (key_any w b ft S g.o.rep (by omega)).mono ?_
  rintro e w' ⟨rfl, hl⟩
  obtain ⟨ft', a, o, t⟩ := g.o.left hl
  exact ⟨rfl, ft', fr, fp, fx, _, _, g.oStep a o t⟩
theorem gpair (h : Game W w pb b r S T hs ts xs bs) (hN : S.rows.length + 2 ≤ 100000) :
    Calls Try.prog 21 #[ptr b] w fun e w' => e = .returned (.tuple #[.int .u64 S.fresh, .int .u64 (S.put .secret).fresh]) ∧ Game W w' pb b r S.pair T hs ts xs bs := by
  obtain ⟨ft, fr, fp, fx, hv', tv, g⟩ := h
  refine (pair_any w b ft S g.o.rep (by omega)).mono ?_
  rintro e w' ⟨rfl, hl⟩
  obtain ⟨ft', a, o, t⟩ := g.o.left hl
  exact ⟨rfl, ft', fr, fp, fx, _, _, g.oStep a o t⟩
theorem gsign (h : Game W w pb b r S T hs ts xs bs) (hN : S.rows.length + 1 ≤ 100000) {s : Int} (hs' : U64 s) {v : Value} {l : List Int} (hv : Rd W v l) (hl : l.length ≤ 900000) :
    Calls Try.prog 22 #[ptr b, .int .u64 s, v] w fun e w' => e = .returned (.tuple #[.int .u64 (S.sign s l).1.1, .int .i64 (S.sign s l).1.2]) ∧ Game W w' pb b r (S.sign s l).2 T hs ts xs bs := by
  obtain ⟨ft, fr, fp, fx, hv', tv, g⟩ := h
  refine (sign_any w b ft S g.o.rep (by omega) s hs' v l (g.o.rd hv) hl).mono ?_
  rintro e w' ⟨rfl, hl⟩
  obtain ⟨ft', a, o, t⟩ := g.o.left hl
  exact ⟨rfl, ft', fr, fp, fx, _, _, g.oStep a o t⟩
theorem gverify (h : Game W w pb b r S T hs ts xs bs) {p : Int} (hp : U64 p) {v : Value} {l : List Int} (hv : Rd W v l) (hl : l.length ≤ 900000) (q : Int) :
    Calls Try.prog 23 #[ptr b, .int .u64 p, v, .int .u64 q] w fun e w' => e = .returned (.bool (S.verify p l q)) ∧ Below w.heap.size w w' := by
  obtain ⟨ft, fr, fp, fx, hv', tv, g⟩ := h
  exact verify_any w b ft S g.o.rep p hp v l (g.o.rd hv) hl q
theorem gseal (h : Game W w pb b r S T hs ts xs bs) (hN : S.rows.length + 1 ≤ 100000) {k : Int} (hk : U64 k) {u v : Value} {bd pl : List Int} (hu : Rd W u bd) (hv : Rd W v pl) (hl : pl.length ≤ 1000000) :
    Calls Try.prog 17 #[ptr b, .int .u64 k, u, v] w fun e w' => ∃ v', e = .returned (.tuple #[v', .int .i64 (S.seal k bd pl).1.2]) ∧ Game W w' pb b r (S.seal k bd pl).2 T hs ts ((v', (S.seal k bd pl).1.1) :: xs) bs := by
  obtain ⟨ft, fr, fp, fx, hv', tv, g⟩ := h
  refine (seal_any w b ft S g.o.rep (by omega) k hk u bd (g.o.rd hu) v pl (g.o.rd hv) hl).mono ?_
  rintro e w' ⟨v', rfl, hl⟩
  obtain ⟨ft', a, rd, q, o, t, n⟩ := g.o.leftB hl
  refine ⟨v', rfl, (g.oStep a o t).hold rd fun k hk => ?_⟩
  have := (n k hk).1
  have := g.o.bel.size
  exact ⟨by omega, (n k hk).2, q k hk, fun e => by have := g.m.room k e; omega, fun e => by have := g.p.room k (by simp [e]); omega⟩
theorem gwrap (h : Game W w pb b r S T hs ts xs bs) (hN : S.rows.length + 1 ≤ 100000) {p k : Int} (hp : U64 p) (hk : U64 k) :
    Calls Try.prog 24 #[ptr b, .int .u64 p, .int .u64 k] w fun e w' => ∃ v', e = .returned (.tuple #[v', .int .i64 (S.wrap p k).1.2]) ∧ Game W w' pb b r (S.wrap p k).2 T hs ts ((v', (S.wrap p k).1.1) :: xs) bs := by
  obtain ⟨ft, fr, fp, fx, hv', tv, g⟩ := h
  refine (wrap_any w b ft S g.o.rep (by omega) p hp k hk).mono ?_
  rintro e w' ⟨v', rfl, hl⟩
  obtain ⟨ft', a, rd, q, o, t, n⟩ := g.o.leftB hl
  refine ⟨v', rfl, (g.oStep a o t).hold rd fun k hk => ?_⟩
  have := (n k hk).1
  have := g.o.bel.size
  exact ⟨by omega, (n k hk).2, q k hk, fun e => by have := g.m.room k e; omega, fun e => by have := g.p.room k (by simp [e]); omega⟩
theorem gopen (h : Game W w pb b r S T hs ts xs bs) (k : Int) {u v : Value} {bd l : List Int} (hu : Rd W u bd) (hv : Rd w v l) (hlen : ∀ k b p, S.find l = some (.seal k b p) → p.length ≤ 1000000) :
    Calls Try.prog 19 #[ptr b, .int .u64 k, u, v] w fun e w' => ∃ v', e = .returned (.tuple #[v', .int .i64 (S.open k bd l).2]) ∧ Rd w' v' (S.open k bd l).1 ∧ Below w.heap.size w w' := by
  obtain ⟨ft, fr, fp, fx, hv', tv, g⟩ := h
  refine (open_any w b ft S g.o.rep k u bd (g.o.rd hu) v l hv hlen).mono ?_
  rintro e w' ⟨v', rfl, rd, hb, _⟩
  exact ⟨v', rfl, rd, hb⟩
theorem gunwrap (h : Game W w pb b r S T hs ts xs bs) (s : Int) {v : Value} {l : List Int} (hv : Rd w v l) :
    Calls Try.prog 25 #[ptr b, .int .u64 s, v] w fun e w' => e = .returned (.tuple #[.int .u64 (S.unwrap s l).1, .int .i64 (S.unwrap s l).2]) ∧ Below w.heap.size w w' := by
  obtain ⟨ft, fr, fp, fx, hv', tv, g⟩ := h
  exact unwrap_any w b ft S g.o.rep s v l hv
theorem gused (h : Game W w pb b r S T hs ts xs bs) : Calls Try.prog 13 #[ptr b] w fun e w' => e = .returned (.int .i64 S.rows.length) ∧ w' = w := by
  obtain ⟨ft, fr, fp, fx, hv', tv, g⟩ := h
  exact used_any w b ft S g.o.rep

/-! ### the reference's -/
theorem mhash (h : Game W w pb b r S T hs ts xs bs) (hN : T.rows.length + 1 ≤ 100000) {v : Value} {l : List Int} (hv : Rd W v l) :
    Calls Try.prog 27 #[ptr r, v] w fun e w' => e = .returned (.int .u64 (T.get (.hash l)).1) ∧ Game W w' pb b r S (T.get (.hash l)).2 hs ts xs bs := by
  obtain ⟨ft, fr, fp, fx, hv', tv, g⟩ := h
  refine (rhash_any W w r fr T g.m hN v l hv).mono ?_
  rintro e w' ⟨rfl, ⟨fr', a, o⟩, t⟩
  exact ⟨rfl, ft, fr', fp, fx, _, _, g.mStep a o t⟩
theorem mkey (h : Game W w pb b r S T hs ts xs bs) (hN : T.rows.length + 1 ≤ 100000) :
    Calls Try.prog 29 #[ptr r] w fun e w' => e = .returned (.int .u64 T.fresh) ∧ Game W w' pb b r S (T.put .key) hs ts xs bs := by
  obtain ⟨ft, fr, fp, fx, hv', tv, g⟩ := h
  refine (rkey_any W w r fr T g.m hN).mono ?_
  rintro e w' ⟨rfl, ⟨fr', a, o⟩, t⟩
  exact ⟨rfl, ft, fr', fp, fx, _, _, g.mStep a o t⟩
theorem mpair (h : Game W w pb b r S T hs ts xs bs) (hN : T.rows.length + 2 ≤ 100000) :
    Calls Try.prog 30 #[ptr r] w fun e w' => e = .returned (.tuple #[.int .u64 T.fresh, .int .u64 (T.put .secret).fresh]) ∧ Game W w' pb b r S T.pair hs ts xs bs := by
  obtain ⟨ft, fr, fp, fx, hv', tv, g⟩ := h
  refine (rpair_any W w r fr T g.m hN).mono ?_
  rintro e w' ⟨rfl, ⟨fr', a, o⟩, t⟩
  exact ⟨rfl, ft, fr', fp, fx, _, _, g.mStep a o t⟩
theorem msign (h : Game W w pb b r S T hs ts xs bs) (hN : T.rows.length + 1 ≤ 100000) (s : Int) {v : Value} {l : List Int} (hv : Rd W v l) :
    Calls Try.prog 32 #[ptr r, .int .u64 s, v] w fun e w' => e = .returned (.tuple #[.int .u64 (T.sign s l).1.1, .int .i64 (T.sign s l).1.2]) ∧ Game W w' pb b r S (T.sign s l).2 hs ts xs bs := by
  obtain ⟨ft, fr, fp, fx, hv', tv, g⟩ := h
  refine (rsign_any W w r fr T g.m hN s v l hv).mono ?_
  rintro e w' ⟨rfl, ⟨fr', a, o⟩, t⟩
  exact ⟨rfl, ft, fr', fp, fx, _, _, g.mStep a o t⟩
theorem mverify (h : Game W w pb b r S T hs ts xs bs) (hf : Fine T) (p : Int) {v : Value} {l : List Int} (hv : Rd W v l) (q : Int) :
    Calls Try.prog 33 #[ptr r, .int .u64 p, v, .int .u64 q] w fun e w' => e = .returned (.bool (T.verify p l q)) ∧ Below w.heap.size w w' := by
  obtain ⟨ft, fr, fp, fx, hv', tv, g⟩ := h
  exact rverify_any W w r fr T g.m hf p v l hv q
theorem mseal (h : Game W w pb b r S T hs ts xs bs) (hN : T.rows.length + 1 ≤ 100000) (k : Int) {u v : Value} {bd pl : List Int} (hu : Rd W u bd) (hv : Rd W v pl) (hl : pl.length ≤ 1000000) :
    Calls Try.prog 34 #[ptr r, .int .u64 k, u, v] w fun e w' => ∃ v', e = .returned (.tuple #[v', .int .i64 (T.seal k bd pl).1.2]) ∧ Game W w' pb b r S (T.seal k bd pl).2 hs ts ((v', (T.seal k bd pl).1.1) :: xs) bs := by
  obtain ⟨ft, fr, fp, fx, hv', tv, g⟩ := h
  refine (rseal_any W w r fr T g.m hN k u bd hu v pl hv hl).mono ?_
  rintro e w' ⟨v', rfl, rd, ⟨fr', a, o, q⟩, t, n⟩
  refine ⟨v', rfl, (g.mStep a o t).hold rd fun k hk => ?_⟩
  have := (n k hk).1
  have := g.o.bel.size
  exact ⟨by omega, (n k hk).2, fun e => by have := g.o.rep.room k e; omega, q k hk, fun e => by have := g.p.room k (by simp [e]); omega⟩
theorem mwrap (h : Game W w pb b r S T hs ts xs bs) (hN : T.rows.length + 1 ≤ 100000) (p k : Int) :
    Calls Try.prog 35 #[ptr r, .int .u64 p, .int .u64 k] w fun e w' => ∃ v', e = .returned (.tuple #[v', .int .i64 (T.wrap p k).1.2]) ∧ Game W w' pb b r S (T.wrap p k).2 hs ts ((v', (T.wrap p k).1.1) :: xs) bs := by
  obtain ⟨ft, fr, fp, fx, hv', tv, g⟩ := h
  refine (rwrap_any W w r fr T g.m hN p k).mono ?_
  rintro e w' ⟨v', rfl, rd, ⟨fr', a, o, q⟩, t, n⟩
  refine ⟨v', rfl, (g.mStep a o t).hold rd fun k hk => ?_⟩
  have := (n k hk).1
  have := g.o.bel.size
  exact ⟨by omega, (n k hk).2, fun e => by have := g.o.rep.room k e; omega, q k hk, fun e => by have := g.p.room k (by simp [e]); omega⟩
theorem mopen (h : Game W w pb b r S T hs ts xs bs) (k : Int) {u v : Value} {bd l : List Int} (hu : Rd W u bd) (hv : Rd w v l) :
    Calls Try.prog 37 #[ptr r, .int .u64 k, u, v] w fun e w' => ∃ v', e = .returned (.tuple #[v', .int .i64 (T.open k bd l).2]) ∧ Rd w' v' (T.open k bd l).1 ∧ Below w.heap.size w w' := by
  have hb0 := h.bel
  obtain ⟨ft, fr, fp, fx, hv', tv, g⟩ := h
  refine (ropen_any W w r fr T g.m k u bd hu v l hv).mono ?_
  rintro e w' ⟨v', rfl, rd, hb⟩
  exact ⟨v', rfl, rd.below (bnext hb0 hb), hb⟩
theorem munwrap (h : Game W w pb b r S T hs ts xs bs) (hf : Fine T) (s : Int) {v : Value} {l : List Int} (hv : Rd w v l) :
    Calls Try.prog 38 #[ptr r, .int .u64 s, v] w fun e w' => e = .returned (.tuple #[.int .u64 (T.unwrap s l).1, .int .i64 (T.unwrap s l).2]) ∧ Below w.heap.size w w' := by
  obtain ⟨ft, fr, fp, fx, hv', tv, g⟩ := h
  exact runwrap_any W w r fr T g.m hf s v l hv
theorem Game.goods (h : Game W w pb b r S T hs ts xs bs) : Good S ∧ Good T := by
  obtain ⟨ft, fr, fp, fx, hv', tv, g⟩ := h
  exact ⟨g.o.rep.good, g.m.good⟩
/-- The reference's rows in memory. -/
theorem Game.refrows (h : Game W w pb b r S T hs ts xs bs) : ∃ a cap, w.cell? ⟨r, 1, none⟩ = some (.slice a T.rows.length cap) := by
  obtain ⟨ft, fr, fp, fx, hv', tv, g⟩ := h
  obtain ⟨R, dv, lv, ro⟩ := g.m
  obtain ⟨a, cap, e, _⟩ := slice_of_own ro.own
  exact ⟨a, cap, by rw [ro.blk.cell 1 _ rfl, e, ro.len]⟩
end

/-! ### the player's own -/
def pickOf (hs : List Int) (n : Int) : Int := if n < hs.length then hs.getD (hs.length - 1 - n.toNat) 0 else n

set_option maxHeartbeats 1000000 in
theorem pick_any {W w : World} {pb b r : Nat} {S T : St} {hs : List Int} {ts xs : List (Value × List Int)} {bs : List (Nat × List Value)} (h : Game W w pb b r S T hs ts xs bs) (hfew : hs.length ≤ 100000) (n : Int) (hn : U64 n) :
    Calls Try.prog 31 #[ptr pb, .int .u64 n] w fun e w' => e = .returned (.int .u64 (pickOf hs n)) ∧ w' = w := by
  obtain ⟨ft, fr, fp, fx, hv, tv, g⟩ := h
  have c2 := g.p.blk.cell 2 _ rfl
  have hown := g.p.hown
  obtain ⟨a, cap, rfl, hl1, hl2⟩ := slice_of_own hown
  clear g
  unfold U64 at hn
  unfold pickOf
  by_cases hlt : n < hs.length
  · rw [if_pos hlt]
    obtain ⟨m, rfl⟩ := Int.eq_ofNat_of_zero_le hn.1
    have hm : m < hs.length := by omega
    obtain ⟨i, hi⟩ : ∃ i, hs.length - 1 - m = i := ⟨_, rfl⟩
    have hil : i < hs.length := by omega
    have hcell : ∃ gb, a = some ⟨gb, 0, none⟩ ∧ w.cell? ⟨gb, i, none⟩ = some (.int .u64 (hs.getD i 0)) := by
      have hc := hown
      rcases hown with ⟨h1, ⟨e, h2⟩ | ⟨gb, cap', cur, e, h3, h4, h5⟩⟩
      · omega
      · cases e
        refine ⟨gb, rfl, ?_⟩
        have := hc.cells (g := gb) rfl i _ (csU_at hs i hil)
        rwa [Addr.add_lit, Nat.zero_add] at this
    obtain ⟨gb, rfl, hcell⟩ := hcell
    have e1 : IntKind.u64.wrap ((hs.length : Int) - 1) = (hs.length : Int) - 1 := wraps_u64 _ (by omega) (by omega)
    have e2 : IntKind.u64.wrap ((hs.length : Int) - 1 - (m : Int)) = (i : Int) := by rw [wraps_u64 _ (by omega) (by omega)]; omega
    have e3 : IntKind.u64.wrap (hs.length : Int) = (hs.length : Int) := wraps_u64 _ (by omega) (by omega)
    have hmi : (m : Int) < (hs.length : Int) := hlt
    simp only [Int.toNat_natCast, hi]
    generalize hs.getD i 0 = z at hcell ⊢
    clear hown hi hm hlt
    go_enter Try.func31, Try.ntmps31
    go_wp2
    go_ret
    exact ⟨rfl, rfl⟩
  · rw [if_neg hlt]
    have e3 : IntKind.u64.wrap (hs.length : Int) = (hs.length : Int) := wraps_u64 _ (by omega) (by omega)
    clear hown
    go_enter Try.func31, Try.ntmps31
    go_wp2
    go_ret
    exact ⟨rfl, rfl⟩
theorem pick_U64 {hs : List Int} (hU : ∀ h ∈ hs, U64 h) {n : Int} (hn : U64 n) : U64 (pickOf hs n) := by
  unfold pickOf
  split
  · rename_i h
    rw [List.getD_eq_getElem?_getD]
    cases e : hs[hs.length - 1 - n.toNat]? with
    | none => simp [U64]
    | some x => exact hU x (List.mem_of_getElem? e)
  · exact hn
end

section
set_option linter.unusedVariables false
set_option synthInstance.maxSize 20000
open Classical
open Go.RowKit Go.Maps

theorem G0.tell {W w wx w' : World} {pb b r : Nat} {ft fr fp fx : List Nat} {S T : St} {hs : List Int} {ts xs : List (Value × List Int)} {bs : List (Nat × List Value)} {hv tv v' : Value} {h : Int} (g : G0 W w pb b r ft fr fp fx S T hs ts xs bs hv tv) (hx : Below w.heap.size w wx)
    (hown : w'.ownsRow W.heap.size 37 1 v' (hs.length + 1) (csU hs ++ [.int .u64 h])) (hgrow : wx.grownBy w' hv.ownBlock) (hat : v'.ownBlock = hv.ownBlock ∨ v'.ownBlock = some wx.heap.size) (hU : U64 h) : Game W (w'.setCell ⟨pb, 2, none⟩ v') pb b r S T (hs ++ [h]) ts xs bs := by
  have t1 : Turn fp w wx := Turn.of_below hx
  have t2 : Turn fp wx w' := ⟨hgrow.os, hgrow.tape, hgrow.output, hgrow.size, fun k hk hn => hgrow.block k hk (fun e => hn (g.p.hap k e.symm).1)⟩
  have t3 : Turn fp w' (w'.setCell ⟨pb, 2, none⟩ v') := Turn.of_grown (grown_setCell _ _ _ _) g.p.foot
  have tall := (t1.same t2).same t3
  have hpl := g.p.room pb (by simp [g.p.foot])
  have hpb : w'.heap[pb]? = w.heap[pb]? := by
    rw [hgrow.block pb (Nat.lt_of_lt_of_le hpl hx.size) (fun e => (g.p.hap pb e.symm).2 rfl), hx.block pb hpl]
  have hlt := hown.lt
  have hsz : (w'.setCell ⟨pb, 2, none⟩ v').heap.size = w'.heap.size := by simp
  have hxs := hx.size
  have hgs := hgrow.size
  have hoth : ∀ k, k < w.heap.size → k ≠ pb → hv.ownBlock ≠ some k → (w'.setCell ⟨pb, 2, none⟩ v').heap[k]? = w.heap[k]? := fun k hk h1 h2 => by
    rw [Below.heap_setCell w' _ _ k (fun e => h1 e), hgrow.block k (by omega) (fun e => h2 e.symm), hx.block k hk]
  have hfx : ∀ k ∈ fx, (w'.setCell ⟨pb, 2, none⟩ v').heap[k]? = w.heap[k]? := fun k hk => tall.block k (g.p.room k (by simp [hk])) (fun e => g.p.apart k e hk)
  have hnew : ∀ k, v'.ownBlock = some k → hv.ownBlock = some k ∨ k = wx.heap.size := fun k hk => by
    rcases hat with e | e
    · exact .inl (e ▸ hk)
    · rw [hk] at e
      exact .inr (by injection e)
  have hvp : ∀ k, v'.ownBlock = some k → k ≠ pb := fun k hk e => by
    rcases hnew k hk with q | q
    · exact (g.p.hap k q).2 e
    · omega
  refine ⟨ft, fr, v'.ownBlock.toList ++ fp, fx, v', tv, g.o.turn tall (fun k hk e => g.d2 k hk (by simp [e])) (fun k hk => g.p.new k (by simp [hk])), g.m.turn tall (fun k hk e => g.d3 k hk (by simp [e])) (fun k hk => g.p.new k (by simp [hk])),
    ⟨(g.p.blk.block hpb).set 2 v', by simp [g.p.foot], fun k hk => ?_, fun k hk => ?_, ?_, ?_, ?_, fun k hk => ⟨by simp [hk], hvp k hk⟩, fun k hk => ?_, fun q hq => ⟨rd_block (g.p.held q hq).1 (fun k hk _ => hfx k ((g.p.held q hq).2 k hk)), (g.p.held q hq).2⟩, fun q hq => ⟨(g.p.box q hq).1.block (hfx _ (g.p.box q hq).2), (g.p.box q hq).2⟩, fun k hk e => ?_⟩, g.d1, fun k hk e => ?_, fun k hk e => ?_⟩
  · simp only [List.mem_append] at hk
    rcases hk with (e | e) | e
    · exact (hlt k (by simpa using e)).1
    · exact g.p.new k (by simp [e])
    · exact g.p.new k (by simp [e])
  · rw [hsz]
    simp only [List.mem_append] at hk
    rcases hk with (e | e) | e
    · exact (hlt k (by simpa using e)).2
    · have := g.p.room k (by simp [e]); omega
    · have := g.p.room k (by simp [e]); omega
  · have : csU (hs ++ [h]) = csU hs ++ [.int .u64 h] := by simp [csU]
    rw [this, List.length_append]
    exact ownsRow_block hown (fun k hk => Below.heap_setCell w' _ _ k (fun e => hvp k hk e))
  · intro x hx
    rcases List.mem_append.1 hx with e | e
    · exact g.p.hU x e
    · simp at e
      rw [e]
      exact hU
  · exact ownsRow_block g.p.town (fun k hk => hoth k (g.p.room k (by simp [(g.p.tap k hk).1])) (g.p.tap k hk).2.1 (g.p.tap k hk).2.2)
  · have hk2 := g.p.tap k hk
    refine ⟨by simp [hk2.1], hk2.2.1, fun e => ?_⟩
    rcases hnew k e with q | q
    · exact hk2.2.2 q
    · have := g.p.room k (by simp [hk2.1]); omega
  · simp only [List.mem_append] at hk
    rcases hk with q | q
    · rcases hnew k (by simpa using q) with q | q
      · exact g.p.apart k (g.p.hap k q).1 e
      · have := g.p.room k (by simp [e]); omega
    · exact g.p.apart k q e
  · simp only [List.mem_append] at e
    rcases e with (e | e) | e
    · rcases hnew k (by simpa using e) with q | q
      · exact g.d2 k hk (by simp [(g.p.hap k q).1])
      · have := g.o.rep.room k hk; omega
    · exact g.d2 k hk (by simp [e])
    · exact g.d2 k hk (by simp [e])
  · simp only [List.mem_append] at e
    rcases e with (e | e) | e
    · rcases hnew k (by simpa using e) with q | q
      · exact g.d3 k hk (by simp [(g.p.hap k q).1])
      · have := g.m.room k hk; omega
    · exact g.d3 k hk (by simp [e])
    · exact g.d3 k hk (by simp [e])

theorem G0.note {W w wx w' : World} {pb b r : Nat} {ft fr fp fx : List Nat} {S T : St} {hs : List Int} {ts xs : List (Value × List Int)} {bs : List (Nat × List Value)} {hv tv v' : Value} {q0 : Value × List Int} (g : G0 W w pb b r ft fr fp fx S T hs ts xs bs hv tv) (hx : Below w.heap.size w wx)
    (hown : w'.ownsRow W.heap.size 38 1 v' (ts.length + 1) (ts.map (·.1) ++ [q0.1])) (hgrow : wx.grownBy w' tv.ownBlock) (hat : v'.ownBlock = tv.ownBlock ∨ v'.ownBlock = some wx.heap.size) (hq0 : q0 ∈ xs) : Game W (w'.setCell ⟨pb, 3, none⟩ v') pb b r S T hs (ts ++ [q0]) xs bs := by
  have t1 : Turn fp w wx := Turn.of_below hx
  have t2 : Turn fp wx w' := ⟨hgrow.os, hgrow.tape, hgrow.output, hgrow.size, fun k hk hn => hgrow.block k hk (fun e => hn (g.p.tap k e.symm).1)⟩
  have t3 : Turn fp w' (w'.setCell ⟨pb, 3, none⟩ v') := Turn.of_grown (grown_setCell _ _ _ _) g.p.foot
  have tall := (t1.same t2).same t3
  have hpl := g.p.room pb (by simp [g.p.foot])
  have hpb : w'.heap[pb]? = w.heap[pb]? := by
    rw [hgrow.block pb (Nat.lt_of_lt_of_le hpl hx.size) (fun e => (g.p.tap pb e.symm).2.1 rfl), hx.block pb hpl]
  have hlt := hown.lt
  have hsz : (w'.setCell ⟨pb, 3, none⟩ v').heap.size = w'.heap.size := by simp
  have hxs := hx.size
  have hgs := hgrow.size
  have hoth : ∀ k, k < w.heap.size → k ≠ pb → tv.ownBlock ≠ some k → (w'.setCell ⟨pb, 3, none⟩ v').heap[k]? = w.heap[k]? := fun k hk h1 h2 => by
    rw [Below.heap_setCell w' _ _ k (fun e => h1 e), hgrow.block k (by omega) (fun e => h2 e.symm), hx.block k hk]
  have hfx : ∀ k ∈ fx, (w'.setCell ⟨pb, 3, none⟩ v').heap[k]? = w.heap[k]? := fun k hk => tall.block k (g.p.room k (by simp [hk])) (fun e => g.p.apart k e hk)
  have hnew : ∀ k, v'.ownBlock = some k → tv.ownBlock = some k ∨ k = wx.heap.size := fun k hk => by
    rcases hat with e | e
    · exact .inl (e ▸ hk)
    · rw [hk] at e
      exact .inr (by injection e)
  have hvp : ∀ k, v'.ownBlock = some k → k ≠ pb := fun k hk e => by
    rcases hnew k hk with q | q
    · exact (g.p.tap k q).2.1 e
    · omega
  refine ⟨ft, fr, v'.ownBlock.toList ++ fp, fx, hv, v', g.o.turn tall (fun k hk e => g.d2 k hk (by simp [e])) (fun k hk => g.p.new k (by simp [hk])), g.m.turn tall (fun k hk e => g.d3 k hk (by simp [e])) (fun k hk => g.p.new k (by simp [hk])),
    ⟨(g.p.blk.block hpb).set 3 v', by simp [g.p.foot], fun k hk => ?_, fun k hk => ?_, ?_, g.p.hU, ?_, fun k hk => ⟨by simp [(g.p.hap k hk).1], (g.p.hap k hk).2⟩, fun k hk => ?_, fun q hq => ?_, fun q hq => ⟨(g.p.box q hq).1.block (hfx _ (g.p.box q hq).2), (g.p.box q hq).2⟩, fun k hk e => ?_⟩, g.d1, fun k hk e => ?_, fun k hk e => ?_⟩
  · simp only [List.mem_append] at hk
    rcases hk with (e | e) | e
    · exact (hlt k (by simpa using e)).1
    · exact g.p.new k (by simp [e])
    · exact g.p.new k (by simp [e])
  · rw [hsz]
    simp only [List.mem_append] at hk
    rcases hk with (e | e) | e
    · exact (hlt k (by simpa using e)).2
    · have := g.p.room k (by simp [e]); omega
    · have := g.p.room k (by simp [e]); omega
  · exact ownsRow_block g.p.hown (fun k hk => hoth k (g.p.room k (by simp [(g.p.hap k hk).1])) (g.p.hap k hk).2 (fun e => (g.p.tap k e).2.2 hk))
  · rw [List.map_append, List.length_append]
    exact ownsRow_block hown (fun k hk => Below.heap_setCell w' _ _ k (fun e => hvp k hk e))
  · refine ⟨by simp [hk], hvp k hk, fun e => ?_⟩
    rcases hnew k hk with q | q
    · exact (g.p.tap k q).2.2 e
    · have := g.p.room k (by simp [(g.p.hap k e).1]); omega
  · have hq' : q ∈ xs ++ ts := by
      simp only [List.mem_append, List.mem_singleton] at hq ⊢
      rcases hq with e | e | rfl
      · exact .inl e
      · exact .inr e
      · exact .inl hq0
    exact ⟨rd_block (g.p.held q hq').1 (fun k hk _ => hfx k ((g.p.held q hq').2 k hk)), (g.p.held q hq').2⟩
  · simp only [List.mem_append] at hk
    rcases hk with q | q
    · rcases hnew k (by simpa using q) with q | q
      · exact g.p.apart k (g.p.tap k q).1 e
      · have := g.p.room k (by simp [e]); omega
    · exact g.p.apart k q e
  · simp only [List.mem_append] at e
    rcases e with (e | e) | e
    · rcases hnew k (by simpa using e) with q | q
      · exact g.d2 k hk (by simp [(g.p.tap k q).1])
      · have := g.o.rep.room k hk; omega
    · exact g.d2 k hk (by simp [e])
    · exact g.d2 k hk (by simp [e])
  · simp only [List.mem_append] at e
    rcases e with (e | e) | e
    · rcases hnew k (by simpa using e) with q | q
      · exact g.d3 k hk (by simp [(g.p.tap k q).1])
      · have := g.m.room k hk; omega
    · exact g.d3 k hk (by simp [e])
    · exact g.d3 k hk (by simp [e])

def toldOf (hs : List Int) (h : Int) : List Int := if h = 0 then hs else hs ++ [h]
theorem toldOf_len (hs : List Int) (h : Int) : (toldOf hs h).length ≤ hs.length + 1 := by unfold toldOf; split <;> simp
theorem Game.hU {W w : World} {pb b r : Nat} {S T : St} {hs : List Int} {ts xs : List (Value × List Int)} {bs : List (Nat × List Value)} (h : Game W w pb b r S T hs ts xs bs) : ∀ x ∈ hs, U64 x := by
  obtain ⟨ft, fr, fp, fx, hv, tv, g⟩ := h
  exact g.p.hU

set_option maxHeartbeats 1000000 in
theorem told_any {W w : World} {pb b r : Nat} {S T : St} {hs : List Int} {ts xs : List (Value × List Int)} {bs : List (Nat × List Value)} (h : Game W w pb b r S T hs ts xs bs) (hfew : hs.length + 1 ≤ 100000) (n : Int) (hn : U64 n) :
    Calls Try.prog 28 #[ptr pb, .int .u64 n] w fun e w' => e = .returned (.tuple #[]) ∧ Game W w' pb b r S T (toldOf hs n) ts xs bs := by
  have H : Hid (Game W w pb b r S T hs ts xs bs) := h
  have HU : Hid (U64 n) := hn
  obtain ⟨ft, fr, fp, fx, hv, tv, g⟩ := h
  have G : Hid (G0 W w pb b r ft fr fp fx S T hs ts xs bs hv tv) := g
  have c2 := g.p.blk.cell 2 _ rfl
  have f2 := g.p.blk.frozen 2
  have hbs := g.o.bel.size
  obtain ⟨a, cap, rfl, hl1, hl2⟩ := slice_of_own g.p.hown
  clear g hn
  unfold toldOf
  by_cases h0 : n = 0
  · rw [if_pos h0]
    subst h0
    go_enter Try.func28, Try.ntmps28
    go_wp2
    go_end0
    exact ⟨rfl, H.out⟩
  · rw [if_neg h0]
    have h0' : (n != 0) = true := by simpa using h0
    clear h0
    obtain ⟨i0, hi, hz0, hz1, hz2⟩ := info_parts info37
    go_enter Try.func28, Try.ntmps28
    go_wp2_with (at_builtin; go_must (refine wpList_append_own_at _ rfl _ _ 22 rfl W.heap.size 37 i0 (.int .u64 0) 1 8 Try.underlying22 hi hz0 hz1 hz2 rfl (by decide) (.slice a hs.length cap) hs.length (csU hs) rfl (G.out.p.hown.alloc _) ⟨w.heap.size, 0, none⟩ 1 1 [.int .u64 n] rfl rfl (cell_one_new _ _ _) (by simp [Value.oneCell']) (by unfold maxLen; omega) (by omega) (by simp; omega) ?_; intro v' w' hown hgrow _ hat; obtain ⟨a', cap', rfl, _, _⟩ := slice_of_own hown; have HG2 : Hid (Game W (w'.setCell ⟨pb, 2, none⟩ (.slice a' (hs.length + 1) cap')) pb b r S T (hs ++ [n]) ts xs bs) := G.out.tell (balloc (Below.refl _ _) _) hown hgrow hat HU.out; have s2 : w'.cell? ⟨pb, 2, none⟩ = some (.slice a hs.length cap) := hgrow.cell (a := ⟨pb, 2, none⟩) ((below_grown (balloc (Below.refl _ w) (.cells #[.int .u64 n] 37))).cell c2 (fun e => by cases e)) (fun e => (G.out.p.hap pb e.symm).2 rfl); have s3 : w'.frozen? ⟨pb, 2, none⟩ = false := (by have hb : w'.heap[pb]? = w.heap[pb]? := (by have hpl := G.out.p.room pb (by simp [G.out.p.foot]); rw [hgrow.block pb (by simp; omega) (fun e => (G.out.p.hap pb e.symm).2 rfl)]; exact heap_alloc_old w _ hpl); exact (G.out.p.blk.block hb).frozen 2); clear hown hgrow hat))
    go_end0
    exact ⟨rfl, HG2.out⟩

theorem bdrews (w : World) (n : Nat) : Below w.heap.size w (w.drewN n) := ⟨rfl, rfl, rfl, Nat.le_refl _, fun _ _ => rfl⟩

/-- The bytes of an op: those told ahead, if it has none. -/
def textOf (ts : List (Value × List Int)) (y : Int) (q : Value × List Int) : Value × List Int := if q.2 = [] ∧ y < ts.length then ts.getD (ts.length - 1 - y.toNat) q else q

theorem Game.text {W w : World} {pb b r : Nat} {S T : St} {hs : List Int} {ts xs : List (Value × List Int)} {bs : List (Nat × List Value)} (h : Game W w pb b r S T hs ts xs bs) {q : Value × List Int} (hq : Rd W q.1 q.2) (y : Int) (hy : 0 ≤ y) : Rd w (textOf ts y q).1 (textOf ts y q).2 := by
  unfold textOf
  split
  · rename_i hc
    have hlt : ts.length - 1 - y.toNat < ts.length := by omega
    rw [List.getD_eq_getElem?_getD, List.getElem?_eq_getElem hlt]
    exact h.held (q := ts[ts.length - 1 - y.toNat]) (List.mem_append.2 (.inr (List.getElem_mem hlt)))
  · exact hq.below h.bel

set_option maxHeartbeats 2000000 in
set_option maxRecDepth 20000 in
theorem text_any {W w : World} {pb b r : Nat} {S T : St} {hs : List Int} {ts xs : List (Value × List Int)} {bs : List (Nat × List Value)} (h : Game W w pb b r S T hs ts xs bs) (hfew : ts.length ≤ 100000) (k x y : Int) (hy : U64 y) (u : Value) (la : List Int) (hu : Rd W u la) (v : Value) (l : List Int) (hv : Rd W v l) :
    Calls Try.prog 36 #[ptr pb, .agg #[.int .i64 k, .int .u64 x, .int .u64 y, u, v]] w fun e w' => e = .returned (textOf ts y (v, l)).1 ∧ Below w.heap.size w w' := by
  obtain ⟨w1, hw1⟩ : ∃ w1, w1 = w.alloc (.cells #[.int .i64 k, .int .u64 x, .int .u64 y, u, v] 40) := ⟨_, rfl⟩
  have hb1 : Below w.heap.size w w1 := by rw [hw1]; exact balloc (Below.refl _ _) _
  have h1 := h.below hb1
  obtain ⟨ft, fr, fp, fx, hv', tv, g⟩ := h1
  have c3 := g.p.blk.cell 3 _ rfl
  have town := g.p.town
  obtain ⟨a, cap, rfl, hl1, hl2⟩ := slice_of_own town
  have Y : Blk w1 w.heap.size 40 [.int .i64 k, .int .u64 x, .int .u64 y, u, v] := by rw [hw1]; exact heap_alloc_new w _
  have y2 := Y.cell 2 _ rfl
  have y4 := Y.cell 4 _ rfl
  have HB1 : Hid (Below w.heap.size w w1) := hb1
  obtain ⟨au, cu, rfl⟩ := hu.len
  obtain ⟨av, cv, rfl⟩ := hv.len
  unfold U64 at hy
  have e3 : IntKind.u64.wrap (ts.length : Int) = (ts.length : Int) := wraps_u64 _ (by omega) (by omega)
  clear g h hb1 Y hu hv
  unfold textOf
  dsimp only
  by_cases hl0 : l = []
  · subst hl0
    simp only [List.length_nil] at hw1 y4 ⊢
    by_cases hlt : y < ts.length
    · rw [if_pos ⟨trivial, hlt⟩]
      obtain ⟨m, rfl⟩ := Int.eq_ofNat_of_zero_le hy.1
      obtain ⟨i, hi⟩ : ∃ i, ts.length - 1 - m = i := ⟨_, rfl⟩
      have hil : i < ts.length := by omega
      have hcell : ∃ gb, a = some ⟨gb, 0, none⟩ ∧ w1.cell? ⟨gb, i, none⟩ = some (ts[i]).1 := by
        have hc := town
        rcases town with ⟨h1, ⟨e, h2⟩ | ⟨gb, cap', cur, e, h3, h4, h5⟩⟩
        · omega
        · cases e
          refine ⟨gb, rfl, ?_⟩
          have := hc.cells (g := gb) rfl i (ts[i]).1 (by simp [hil])
          rwa [Addr.add_lit, Nat.zero_add] at this
      obtain ⟨gb, rfl, hcell⟩ := hcell
      have e1 : IntKind.u64.wrap ((ts.length : Int) - 1) = (ts.length : Int) - 1 := wraps_u64 _ (by omega) (by omega)
      have e2 : IntKind.u64.wrap ((ts.length : Int) - 1 - (m : Int)) = (i : Int) := by rw [wraps_u64 _ (by omega) (by omega)]; omega
      have hmi : (m : Int) < (ts.length : Int) := hlt
      have hii : (i : Int) < (ts.length : Int) := by omega
      have hg : (ts.getD i (.slice av 0 cv, [])) = ts[i] := by rw [List.getD_eq_getElem?_getD, List.getElem?_eq_getElem hil]; rfl
      simp only [Int.toNat_natCast, hi]
      rw [hg]
      generalize (ts[i]).1 = z at hcell ⊢
      clear town hi hlt hg
      subst hw1
      go_enter Try.func36, Try.ntmps36
      go_wp2
      go_quiet (fail)
      go_wp2
      go_ret
      exact ⟨rfl, bnext HB1.out (bdrews _ _)⟩
    · rw [if_neg (fun e => hlt e.2)]
      clear town
      subst hw1
      go_enter Try.func36, Try.ntmps36
      go_wp2
      go_ret
      exact ⟨rfl, HB1.out⟩
  · rw [if_neg (fun e => hl0 e.1)]
    have hl' : ¬ (l.length : Int) = 0 := by
      have : l.length ≠ 0 := fun e => hl0 (List.eq_nil_of_length_eq_zero e)
      omega
    have hl2' : ((l.length : Int) == 0) = false := by simpa using hl'
    clear town
    subst hw1
    go_enter Try.func36, Try.ntmps36
    go_wp2
    go_ret
    exact ⟨rfl, HB1.out⟩
end
end Go.Proofs.Ytcacioogklgahaa
