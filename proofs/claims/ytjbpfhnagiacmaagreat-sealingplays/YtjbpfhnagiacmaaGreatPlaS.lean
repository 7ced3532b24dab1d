/-
  SealingPlays: what the law's own store leaves as it was.
-/
import Derived.Test.YtjbpfhnagiacmaaGreatAlvT
import Derived.Test.YtjbpfhnagiacmaaGreatArgsS
namespace Go.Proofs.YtjbpfhnagiacmaaGreat
set_option linter.unusedVariables false
set_option linter.unusedSimpArgs false
set_option synthInstance.maxSize 20000
set_option maxHeartbeats 2000000
set_option maxRecDepth 20000
open Go.RowKit Go.Maps

/-- The document's oracle is as it was when a cell that holds a slice is written, in old memory and now. -/
theorem ROrc.swap {w0 w : World} {o : Nat → Nat} {r eb i : Nat} {T : St} {u : Value} {a : Option Addr} {n c : Nat} (h : ROrc w0 w o r T) (he : eb < w0.heap.size) (hc : w0.cell? ⟨eb, i, none⟩ = some (.slice a n c)) : ROrc (w0.setCell ⟨eb, i, none⟩ u) (w.setCell ⟨eb, i, none⟩ u) o r T := by
  obtain ⟨fr, sb, ⟨R, dv, lv, hr⟩, h1, h2, h3⟩ := h
  have g := grown_setCell w eb i u
  have g0 := grown_setCell w0 eb i u
  have hs0 : (w0.setCell ⟨eb, i, none⟩ u).heap.size = w0.heap.size := by simp
  have hs : (w.setCell ⟨eb, i, none⟩ u).heap.size = w.heap.size := by simp
  have hcw : w.cell? ⟨eb, i, none⟩ = some (.slice a n c) := by
    rw [← hc]
    exact hr.bel.cell (p := ⟨eb, i, none⟩) he
  have keep : ∀ (W : World) (p : Addr) (k : IntKind) (x : Int), W.cell? ⟨eb, i, none⟩ = some (.slice a n c) → W.cell? p = some (.int k x) → (W.setCell ⟨eb, i, none⟩ u).cell? p = some (.int k x) := fun W p k x hW hp => by
    by_cases hb : p.block = eb
    · obtain ⟨pb, po, ps⟩ := p
      dsimp only at hb
      subst hb
      have hsp : ps = none := World.cell?_spot hp
      subst hsp
      by_cases hi : po = i
      · subst hi
        rw [hW] at hp
        cases hp
      · rw [← hp]
        simp only [World.cell?, World.setCell]
        have hlt := World.block_lt_of_cell? W _ hp
        simp only [Array.getElem?_modify]
        cases hx : W.heap[pb]? with
        | none => simp
        | some ob => cases ob <;> simp [Ne.symm hi]
    · have hlt := World.block_lt_of_cell? W _ hp
      rw [← hp]
      simp only [World.cell?, (grown_setCell W eb i u).block p.block hlt (fun e => hb (Option.some.inj e))]
  have hfr : ∀ k ∈ fr, (w.setCell ⟨eb, i, none⟩ u).heap[k]? = w.heap[k]? := fun k hk => g.block k (hr.room k hk) (fun e => by
    have := Option.some.inj e
    have := hr.new k hk
    dsimp only at this
    omega)
  have rdk : ∀ {v : Value} {l : List Int}, Rd w v l → Rd (w.setCell ⟨eb, i, none⟩ u) v l := fun {v l} hv => by
    obtain ⟨ho, b, cap, rfl, q1, q2, q3, q4⟩ := hv
    refine ⟨ho, b, cap, rfl, q1, q2, q3, fun hp => ?_⟩
    obtain ⟨b2, off, rfl, hcc⟩ := q4 hp
    exact ⟨b2, off, rfl, fun j hj => keep w _ _ _ hcw (hcc j hj)⟩
  refine ⟨fr, sb, ⟨R, dv, lv, ?_⟩, h1, h2, fun k hk => h3 k (by rw [hs0] at hk; exact hk)⟩
  refine ⟨hr.rows, hr.blk.block (hfr r hr.foot), hr.foot, fun k hk => ?_, fun k hk => ?_, ?_, ?_, ?_, hr.apart, fun q hq => ?_, fun k hk => ?_, hr.good, hr.few⟩
  · show (w0.setCell ⟨eb, i, none⟩ u).heap.size ≤ k
    rw [hs0]; exact hr.new k hk
  · rw [hs]; exact hr.room k hk
  · show Below (w0.setCell ⟨eb, i, none⟩ u).heap.size (w0.setCell ⟨eb, i, none⟩ u) (w.setCell ⟨eb, i, none⟩ u)
    rw [hs0]
    refine ⟨hr.bel.os, hr.bel.tape, hr.bel.output, by rw [hs0, hs]; exact hr.bel.size, fun k hk => ?_⟩
    by_cases hk' : k = eb
    · subst hk'
      have hb := hr.bel.block k hk
      simp only [World.setCell, Array.getElem?_modify]
      rw [hb]
    · rw [g.block k (Nat.lt_of_lt_of_le hk hr.bel.size) (fun e => hk' (Option.some.inj e)), g0.block k hk (fun e => hk' (Option.some.inj e))]
      exact hr.bel.block k hk
  · obtain ⟨d1, da, dc, rfl, d2, d3, d4, d5⟩ := hr.draws
    refine ⟨d1, da, dc, rfl, d2, d3, d4, fun hp => ?_⟩
    obtain ⟨b2, off, rfl, hcc⟩ := d5 hp
    exact ⟨b2, off, rfl, fun j hj => keep w0 _ _ _ hc (hcc j hj)⟩
  · show (w.setCell ⟨eb, i, none⟩ u).ownsRow (w0.setCell ⟨eb, i, none⟩ u).heap.size 112 6 lv R.length (flatR R)
    rw [hs0]
    exact ownsRow_block hr.own (fun k hk => hfr k (hr.apart k hk).1)
  · have hv := hr.vals q hq
    refine ⟨⟨rdk hv.1.1, fun k hk => ?_⟩, ⟨rdk hv.2.1, fun k hk => ?_⟩⟩
    · rcases hv.1.2 k hk with e | e
      · exact .inl (by show k < (w0.setCell ⟨eb, i, none⟩ u).heap.size; rw [hs0]; exact e)
      · exact .inr e
    · rcases hv.2.2 k hk with e | e
      · exact .inl (by show k < (w0.setCell ⟨eb, i, none⟩ u).heap.size; rw [hs0]; exact e)
      · exact .inr e
  · rw [hs]; exact hr.sep k hk
/-- A block without bytes gets an owner of its own. -/
def ownE (eb : Nat) (o : Nat → Nat) : Nat → Nat := fun k => if k = eb then 30 else o k
section
variable {w : World} {o : Nat → Nat} {eb : Nat} {e : TypeId} {vs : List Value}
theorem ownE_at : ownE eb o eb = 30 := if_pos rfl
theorem ownE_ne {k j : Nat} (h : o k = j) (h0 : o eb ≠ j) : ownE eb o k = j := by
  unfold ownE
  rw [if_neg (fun e => h0 (by rw [← e]; exact h)), h]
theorem Kp0.ownE {v : Value} {l : List Int} (h : Kp0 w o v l) (hE : Blk w eb e vs) (hno : ∀ (i : Nat) (x : Int), vs[i]? ≠ some (Value.int .u8 x)) : Kp0 w (ownE eb o) v l := ⟨h.1, fun hl k hk => by
  unfold Proofs.YtjbpfhnagiacmaaGreat.ownE
  by_cases hke : k = eb
  · exfalso
    subst hke
    obtain ⟨_, a, cap, rfl, _, _, _, h4⟩ := h.1
    obtain ⟨b, off, rfl, hc⟩ := h4 (List.length_pos_iff.2 hl)
    have hc0 := hc 0 (List.length_pos_iff.2 hl)
    have hb : b = k := by simpa [Value.ownBlock] using hk
    subst hb
    unfold Blk at hE
    simp only [World.cell?, hE] at hc0
    exact hno (off + 0) (l.getD 0 0) (by simpa using hc0)
  · rw [if_neg hke]
    exact h.2 hl k hk⟩
theorem OrcAt.ownE {b : Nat} {S : St} (h : OrcAt w o b S) (h0 : o eb ≠ 1) : OrcAt w (ownE eb o) b S := by
  obtain ⟨ft, hr, h1⟩ := h
  exact ⟨ft, hr, fun k hk => ownE_ne (h1 k hk) h0⟩
theorem RIs.ownE {j rb ob : Nat} {r : Rg} (h : RIs w o j rb ob r) (h0 : o eb ≠ j) (hE : Blk w eb e vs) (hno : ∀ (i : Nat) (x : Int), vs[i]? ≠ some (Value.int .u8 x)) : RIs w (ownE eb o) j rb ob r := by
  obtain ⟨kv, ov, qs, hA, hq, hr⟩ := h
  exact ⟨kv, ov, qs, ⟨hA.blk, ownE_ne hA.own h0, hA.krow, fun k hk => ⟨ownE_ne (hA.kown k hk).1 h0, (hA.kown k hk).2⟩, hA.orow, fun k hk => ⟨ownE_ne (hA.oown k hk).1 h0, (hA.oown k hk).2⟩, hA.apart, fun q hq' => (hA.olds q hq').ownE hE hno⟩, hq, hr⟩
theorem RRIs.ownE {j rb : Nat} {r : Rg} (h : RRIs w o j rb r) (h0 : o eb ≠ j) (hE : Blk w eb e vs) (hno : ∀ (i : Nat) (x : Int), vs[i]? ≠ some (Value.int .u8 x)) : RRIs w (ownE eb o) j rb r := by
  obtain ⟨kv, ov, qs, hA, hq, hr⟩ := h
  exact ⟨kv, ov, qs, ⟨hA.blk, ownE_ne hA.own h0, hA.krow, fun k hk => ⟨ownE_ne (hA.kown k hk).1 h0, (hA.kown k hk).2⟩, hA.orow, fun k hk => ⟨ownE_ne (hA.oown k hk).1 h0, (hA.oown k hk).2⟩, hA.apart, fun q hq' => (hA.olds q hq').ownE hE hno⟩, hq, hr⟩
end
/-- Open of the document, oracle and ring each under owners of their own. -/
theorem orc_ropen13o {w0 w : World} {o o2 : Nat → Nat} {S : St} {rr j rb : Nat} {r : Rg} (hO : ROrc w0 w o rr S) (hR : RRIs w o2 j rb r) {e : Ent} {v : Value} (hv : Rd w v e.b) :
    Calls Tryz.prog 13 #[ptr rr, ptr rb, ev e v] w fun z w' => ∃ v', z = .returned (.tuple #[v', .int .i64 (openM S (keyM r.ks e.n) e).2]) ∧ Rd w' v' (openM S (keyM r.ks e.n) e).1 ∧ Below w.heap.size w w' := by
  have hKy := keyRf hR e.n
  generalize keyM r.ks e.n = kk at *
  unfold openM
  cases hr : eRight e with
  | false =>
    rw [if_neg (by simp)]
    refine (ropen13_bad hv hr _ _).mono ?_
    rintro z w' ⟨rfl, hb⟩
    exact ⟨_, rfl, rd_nil _, hb⟩
  | true =>
    rw [if_pos rfl]
    by_cases hn : e.n = -1
    · rw [if_pos hn]
      refine (ropen13_plain hv hr hn _ _).mono ?_
      rintro z w' ⟨rfl, hb⟩
      exact ⟨_, rfl, rd_nil _, hb⟩
    · rw [if_neg hn]
      by_cases h0 : kk.2 = 0
      · rw [if_pos h0]
        rw [h0] at hKy
        refine (ropen13_ok (Post := fun w1 v' k w' => k = (S.open kk.1 (boundL e.w e.i e.n) e.b).2 ∧ Rd w' v' (S.open kk.1 (boundL e.w e.i e.n) e.b).1 ∧ Below w1.heap.size w1 w') hv hr hn hKy (fun w' u hb hu => ?_)).mono ?_
        · refine (rorc_open (hO.below hb) kk.1 hu (hv.below hb)).mono ?_
          rintro z w'' ⟨v', rfl, h1, h2⟩
          exact ⟨v', _, rfl, h2, rfl, h1, h2⟩
        · rintro z w' ⟨v', k, w1, rfl, hb, rfl, h1, h2⟩
          exact ⟨v', rfl, h1, bnext hb h2⟩
      · rw [if_neg h0]
        refine (ropen13_no hv hr hn h0 hKy).mono ?_
        rintro z w' ⟨rfl, hb⟩
        exact ⟨_, rfl, rd_nil _, hb⟩
end Go.Proofs.YtjbpfhnagiacmaaGreat
