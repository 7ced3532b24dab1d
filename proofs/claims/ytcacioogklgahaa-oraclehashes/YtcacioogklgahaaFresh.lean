/-
  A fresh handle: the program's loop over draws, and behind their end over the numbers, finds the one that the list's definition tells; a thing put behind it.
-/
import Derived.Test.YtcacioogklgahaaNext
namespace Go.Proofs.Ytcacioogklgahaa
set_option linter.unusedVariables false
set_option synthInstance.maxSize 20000
open Go.RowKit Go.Maps

theorem IsO.ne {w : World} {b k n : Nat} {ft : List Nat} {T : Tab} {dv m1 m2 m3 : Value} {c : TypeId} {f : Lit → Option Value} (h : IsO w b ft T dv m1 m2 m3) (hm : MapF Try.prog c w k n f) : k ≠ b := fun e => by
  obtain ⟨m, D, ⟨es, clock, he, _⟩, _⟩ := hm
  have := h.blk
  unfold Blk at this
  rw [← e, he] at this
  cases this

/-- A map of the oracle's is written. -/
theorem IsO.putMade {w w' : World} {b b1 b2 b3 : Nat} {ft : List Nat} {T : Tab} {dv : Value} (h : IsO w b ft T dv (.map (some b1)) (.map (some b2)) (.map (some b3))) (hg : w.grownBy w' (some b1)) {us' : List Int} {made' : Int → Option Thing}
    (hm : MapF Try.prog 37 w' b1 us'.length (litI made')) (hfew : us'.length < 1000000000) (hle : T.us.length ≤ us'.length) (hmade : ∀ h, (made' h).isSome = decide (h ∈ us')) :
    IsO w' b ft { T with us := us', made := made' } dv (.map (some b1)) (.map (some b2)) (.map (some b3)) := by
  rcases h.maps with ⟨e, _⟩ | ⟨b1, b2, b3, n2, n3, e1, e2, e3, n12, n13, n23, f1, f2, f3, l2, l3, g1, g2, g3⟩
  · cases e
  · cases e1; cases e2; cases e3
    have hb : ∀ k ∈ ft, k ≠ b1 → w'.heap[k]? = w.heap[k]? := fun k hk hn => hg.block k (h.room k hk) (fun e => hn (by simpa using e))
    refine ⟨h.blk.block (hb b h.foot (h.ne g1).symm), h.foot, h.draws.block (fun k hk _ => hb k (h.apart k hk).1 (fun e => (h.apart k hk).2.2.1 (by rw [e]))), h.apart, hfew, by have := h.least; simp only; omega, hmade, ?_, fun k hk => Nat.lt_of_lt_of_le (h.room k hk) hg.size⟩
    exact .inr ⟨b1, b2, b3, n2, n3, rfl, rfl, rfl, n12, n13, n23, f1, f2, f3, by simp only; omega, by simp only; omega, hm, g2.block (hb _ f2 n12.symm), g3.block (hb _ f3 n13.symm)⟩
theorem IsO.putHashes {w w' : World} {b b1 b2 b3 : Nat} {ft : List Nat} {T : Tab} {dv : Value} (h : IsO w b ft T dv (.map (some b1)) (.map (some b2)) (.map (some b3))) (hg : w.grownBy w' (some b2)) {n : Nat} {hashes' : List Int → Option Int}
    (hm : MapF Try.prog 9 w' b2 n (litS hashes')) (hle : n ≤ T.us.length) :
    IsO w' b ft { T with hashes := hashes' } dv (.map (some b1)) (.map (some b2)) (.map (some b3)) := by
  rcases h.maps with ⟨e, _⟩ | ⟨b1, b2, b3, n2, n3, e1, e2, e3, n12, n13, n23, f1, f2, f3, l2, l3, g1, g2, g3⟩
  · cases e
  · cases e1; cases e2; cases e3
    have hb : ∀ k ∈ ft, k ≠ b2 → w'.heap[k]? = w.heap[k]? := fun k hk hn => hg.block k (h.room k hk) (fun e => hn (by simpa using e))
    refine ⟨h.blk.block (hb b h.foot (h.ne g2).symm), h.foot, h.draws.block (fun k hk _ => hb k (h.apart k hk).1 (fun e => (h.apart k hk).2.2.2.1 (by rw [e]))), h.apart, h.few, h.least, h.made, ?_, fun k hk => Nat.lt_of_lt_of_le (h.room k hk) hg.size⟩
    exact .inr ⟨b1, b2, b3, n, n3, rfl, rfl, rfl, n12, n13, n23, f1, f2, f3, hle, l3, g1.block (hb _ f1 n12), hm, g3.block (hb _ f3 n23.symm)⟩
theorem IsO.putSigned {w w' : World} {b b1 b2 b3 : Nat} {ft : List Nat} {T : Tab} {dv : Value} (h : IsO w b ft T dv (.map (some b1)) (.map (some b2)) (.map (some b3))) (hg : w.grownBy w' (some b3)) {n : Nat} {signed' : List Int → Option Int}
    (hm : MapF Try.prog 9 w' b3 n (litS signed')) (hle : n ≤ T.us.length) :
    IsO w' b ft { T with signed := signed' } dv (.map (some b1)) (.map (some b2)) (.map (some b3)) := by
  rcases h.maps with ⟨e, _⟩ | ⟨b1, b2, b3, n2, n3, e1, e2, e3, n12, n13, n23, f1, f2, f3, l2, l3, g1, g2, g3⟩
  · cases e
  · cases e1; cases e2; cases e3
    have hb : ∀ k ∈ ft, k ≠ b3 → w'.heap[k]? = w.heap[k]? := fun k hk hn => hg.block k (h.room k hk) (fun e => hn (by simpa using e))
    refine ⟨h.blk.block (hb b h.foot (h.ne g3).symm), h.foot, h.draws.block (fun k hk _ => hb k (h.apart k hk).1 (fun e => (h.apart k hk).2.2.2.2 (by rw [e]))), h.apart, h.few, h.least, h.made, ?_, fun k hk => Nat.lt_of_lt_of_le (h.room k hk) hg.size⟩
    exact .inr ⟨b1, b2, b3, n2, n, rfl, rfl, rfl, n12, n13, n23, f1, f2, f3, l2, hle, g1.block (hb _ f1 n13), g2.block (hb _ f2 n23), hm⟩

theorem IsO.m1 {w : World} {b b1 b2 b3 : Nat} {ft : List Nat} {T : Tab} {dv : Value} (h : IsO w b ft T dv (.map (some b1)) (.map (some b2)) (.map (some b3))) : b1 ∈ ft ∧ MapF Try.prog 37 w b1 T.us.length (litI T.made) := by
  rcases h.maps with ⟨e, _⟩ | ⟨b1, b2, b3, n2, n3, e1, e2, e3, n12, n13, n23, f1, f2, f3, l2, l3, g1, g2, g3⟩
  · cases e
  · cases e1; cases e2; cases e3
    exact ⟨f1, g1⟩
theorem IsO.m2 {w : World} {b b1 b2 b3 : Nat} {ft : List Nat} {T : Tab} {dv : Value} (h : IsO w b ft T dv (.map (some b1)) (.map (some b2)) (.map (some b3))) : b2 ∈ ft ∧ ∃ n, n ≤ T.us.length ∧ MapF Try.prog 9 w b2 n (litS T.hashes) := by
  rcases h.maps with ⟨e, _⟩ | ⟨b1, b2, b3, n2, n3, e1, e2, e3, n12, n13, n23, f1, f2, f3, l2, l3, g1, g2, g3⟩
  · cases e
  · cases e1; cases e2; cases e3
    exact ⟨f2, n2, l2, g2⟩
theorem IsO.m3 {w : World} {b b1 b2 b3 : Nat} {ft : List Nat} {T : Tab} {dv : Value} (h : IsO w b ft T dv (.map (some b1)) (.map (some b2)) (.map (some b3))) : b3 ∈ ft ∧ ∃ n, n ≤ T.us.length ∧ MapF Try.prog 9 w b3 n (litS T.signed) := by
  rcases h.maps with ⟨e, _⟩ | ⟨b1, b2, b3, n2, n3, e1, e2, e3, n12, n13, n23, f1, f2, f3, l2, l3, g1, g2, g3⟩
  · cases e
  · cases e1; cases e2; cases e3
    exact ⟨f3, n3, l3, g3⟩

/-- All numbers from 1 to the least were handed out. -/
def Tab.full (T : Tab) : Prop := ∀ i : Int, 1 ≤ i → i ≤ T.least → i ∈ T.us

/-- How much is left of the draws, and of the numbers. -/
def left (b L : Nat) (w : World) : Nat :=
  (match w.cell? ⟨b, 0, none⟩ with | some (.slice _ n _) => n | _ => 0) + (L + 2 - (match w.cell? ⟨b, 1, none⟩ with | some (.int _ k) => k.toNat | _ => 0))
theorem IsO.left {w : World} {b : Nat} {ft : List Nat} {T : Tab} {dv m1 m2 m3 : Value} (h : IsO w b ft T dv m1 m2 m3) (L : Nat) : left b L w = T.draws.length + (L + 2 - T.least) := by
  unfold Ytcacioogklgahaa.left
  rw [h.blk.cell 0 _ rfl, h.blk.cell 1 _ rfl]
  obtain ⟨_, a, cap, rfl, _⟩ := h.draws
  simp

/-- The state with a new handle, behind which nothing stands. -/
def Tab.named (T : Tab) (n : Nat) : Tab := { T with draws := (freshOf T.us T.draws).2, least := n, us := T.us ++ [(freshOf T.us T.draws).1], made := fun x => if x = (freshOf T.us T.draws).1 then some noThing else T.made x }

theorem upd_made {T : Tab} {h : Int} (t : Thing) (hm : ∀ h, (T.made h).isSome = decide (h ∈ T.us)) : ∀ g, ((if g = h then some t else T.made g) : Option Thing).isSome = decide (g ∈ T.us ++ [h]) := fun g => by
  by_cases e : g = h
  · subst e; simp
  · rw [if_neg e, hm g]
    simp [e]

/-- Where the loop stands: h is the number to look at, ds and n are left. -/
def Stands (us draws : List Int) (h : Int) (ds : List Int) (n : Nat) : Prop :=
  U64 h ∧ (freshOf us draws = if h = 0 ∨ h ∈ us then freshOf us ds else (h, ds)) ∧ (∀ i : Int, 1 ≤ i → i ≤ n → i ∈ us ∨ i = h) ∧ ∀ d ∈ ds, U64 d
theorem stands_next {us draws : List Int} (ds : List Int) (n : Nat) (hf : ∀ i : Int, 1 ≤ i → i ≤ n → i ∈ us) (hd : ∀ d ∈ ds, U64 d) (hN : us.length + 1 < 1000000000) (he : freshOf us draws = freshOf us ds)
    (made : Int → Option Thing) (hashes signed : List Int → Option Int) : Stands us draws (Tab.next ⟨ds, n, us, made, hashes, signed⟩).1 (Tab.next ⟨ds, n, us, made, hashes, signed⟩).2.draws (Tab.next ⟨ds, n, us, made, hashes, signed⟩).2.least := by
  have hp : n ≤ us.length := pigeon _ _ hf
  unfold Stands Tab.next
  cases ds with
  | nil =>
    simp only
    refine ⟨by unfold U64; omega, ?_, fun i h1 h2 => ?_, hd⟩
    · rw [he]
      split
      · rfl
      · rename_i hh
        simp only [freshOf]
        rw [leastFree_one (n := (n : Int) + 1) (by omega) (fun e => hh (.inr e)) (fun i h1 h2 => hf i h1 (by omega))]
    · by_cases e : i = (n : Int) + 1
      · exact .inr e
      · exact .inl (hf i h1 (by push_cast at h2; omega))
  | cons d ds =>
    simp only
    refine ⟨hd d (by simp), ?_, fun i h1 h2 => .inl (hf i h1 h2), fun x hx => hd x (List.mem_cons_of_mem _ hx)⟩
    rw [he]
    rfl
theorem next_us (ds : List Int) (n : Nat) (us : List Int) (made : Int → Option Thing) (hashes signed : List Int → Option Int) : (Tab.next ⟨ds, n, us, made, hashes, signed⟩).2 = ⟨(Tab.next ⟨ds, n, us, made, hashes, signed⟩).2.draws, (Tab.next ⟨ds, n, us, made, hashes, signed⟩).2.least, us, made, hashes, signed⟩ := by
  unfold Tab.next
  cases ds <;> rfl
theorem next_left (ds : List Int) (n : Nat) (us : List Int) (made : Int → Option Thing) (hashes signed : List Int → Option Int) (hn : n ≤ us.length) :
    (Tab.next ⟨ds, n, us, made, hashes, signed⟩).2.draws.length + (us.length + 2 - (Tab.next ⟨ds, n, us, made, hashes, signed⟩).2.least) < ds.length + (us.length + 2 - n) := by
  unfold Tab.next
  cases ds with
  | nil => simp only [List.length_nil]; omega
  | cons d ds => simp only [List.length_cons]; omega
theorem tv_none : thingVal noThing = .agg #[.int .i64 0, .int .u64 0, .int .u64 0, .int .i64 0, .string ⟨#[]⟩, .string ⟨#[]⟩] := rfl

set_option maxHeartbeats 1000000 in
set_option maxRecDepth 20000 in
theorem fresh_any (w : World) (b : Nat) (ft : List Nat) (T : Tab) (dv : Value) (b1 b2 b3 : Nat) (h : IsO w b ft T dv (.map (some b1)) (.map (some b2)) (.map (some b3))) (hf : T.full) (hN : T.us.length + 1 < 1000000000) :
    Calls Try.prog 41 #[ptr b] w fun e w' => e = .returned (.int .u64 (freshOf T.us T.draws).1) ∧ (∃ dv' n, IsO w' b ft (T.named n) dv' (.map (some b1)) (.map (some b2)) (.map (some b3)) ∧ (T.named n).full) ∧ Turn [b, b1] w w' := by
  have hdraws := h.draws.1
  have hp : T.least ≤ T.us.length := pigeon _ _ (fun i h1 h2 => hf i h1 h2)
  obtain ⟨draws, least, us, made, hashes, signed⟩ := T
  have HF : Hid (Tab.full ⟨draws, least, us, made, hashes, signed⟩) := hf
  dsimp only at *
  have H : Hid (IsO w b ft ⟨draws, least, us, made, hashes, signed⟩ dv (.map (some b1)) (.map (some b2)) (.map (some b3))) := h
  clear h hf
  go_enter Try.func41, Try.ntmps41
  go_wp2_with (go_at_call 56; go_must (refine (next_any _ b ft _ dv _ _ _ H.out (fun _ => hp)).mono ?_; rintro e w1 ⟨rfl, hx1, ht1⟩))
  obtain ⟨dv1, hx1⟩ := hx1
  rw [next_us] at hx1
  have hst := stands_next (draws := draws) draws least HF.out hdraws hN rfl made hashes signed
  generalize (Tab.next ⟨draws, least, us, made, hashes, signed⟩).2.draws = ds1 at hx1 hst
  generalize (Tab.next ⟨draws, least, us, made, hashes, signed⟩).2.least = n1 at hx1 hst
  generalize (Tab.next ⟨draws, least, us, made, hashes, signed⟩).1 = h1 at hst ⊢
  go_loopw [3] (fun v wr => ∃ (h : Int) (ds : List Int) (n : Nat) (dv' : Value), v = .int .u64 h ∧ Hid (IsO wr b ft ⟨ds, n, us, made, hashes, signed⟩ dv' (.map (some b1)) (.map (some b2)) (.map (some b3))) ∧ Hid (Turn [b] w wr) ∧ Hid (Stands us draws h ds n)) (fun _ wr => left b us.length wr)
  case atStart => exact ⟨h1, ds1, n1, dv1, rfl, hx1, ht1, hst⟩
  case round =>
    obtain ⟨h, ds, n, dv', rfl, hi, ht, hs⟩ := hrel
    clear hx1 ht1 hst H
    have hU := hs.out.1
    by_cases hbad : h = 0 ∨ h ∈ us
    · have hfl : ∀ i : Int, 1 ≤ i → i ≤ n → i ∈ us := fun i h1 h2 => by
        rcases hs.out.2.2.1 i h1 h2 with r | r
        · exact r
        · subst r
          rcases hbad with r | r
          · omega
          · exact r
      have hnp : n ≤ us.length := pigeon _ _ hfl
      have he : freshOf us draws = freshOf us ds := by rw [hs.out.2.1, if_pos hbad]
      have HX : Hid (freshOf us draws = freshOf us ds ∧ ∀ i : Int, 1 ≤ i → i ≤ n → i ∈ us) := ⟨he, hfl⟩
      clear he hfl
      by_cases h0 : h = 0
      · subst h0
        clear hbad hU
        go_wp2_with (go_at_call 56; go_must (refine (next_any _ b ft _ dv' _ _ _ hi.out (fun _ => hnp)).mono ?_; rintro e w2 ⟨rfl, hx2, ht2⟩))
        obtain ⟨dv2, hx2⟩ := hx2
        go_roundw
        case rel => exact ⟨_, _, _, dv2, rfl, (next_us ds n us made hashes signed) ▸ hx2, ht.out.same ht2, stands_next ds n HX.out.2 hs.out.2.2.2 hN HX.out.1 made hashes signed⟩
        case measure =>
          rw [hx2.left us.length, hi.out.left us.length]
          exact next_left ds n us made hashes signed hnp
      · have hmem : h ∈ us := hbad.resolve_left h0
        have h0' : (h == 0) = false := by simpa using h0
        clear hbad h0
        go_wp2_with (first | (go_at_call 57; go_must (refine (out_any _ b ft _ dv' _ _ _ hi.out h hU).mono ?_; rintro e w3 ⟨rfl, hb3⟩; dsimp only; rw [decide_eq_true hmem])) | (go_at_call 56; go_must (refine (next_any _ b ft _ dv' _ _ _ (hi.out.below hb3) (fun _ => hnp)).mono ?_; rintro e w2 ⟨rfl, hx2, ht2⟩)))
        obtain ⟨dv2, hx2⟩ := hx2
        go_roundw
        case rel => exact ⟨_, _, _, dv2, rfl, (next_us ds n us made hashes signed) ▸ hx2, (ht.out.same (Turn.of_below hb3)).same ht2, stands_next ds n HX.out.2 hs.out.2.2.2 hN HX.out.1 made hashes signed⟩
        case measure =>
          rw [hx2.left us.length, hi.out.left us.length]
          exact next_left ds n us made hashes signed hnp
    · have h0' : (h == 0) = false := by simpa using fun e => hbad (.inl e)
      have hmem : h ∉ us := fun e => hbad (.inr e)
      have he : freshOf us draws = (h, ds) := by rw [hs.out.2.1, if_neg hbad]
      have HE : Hid (freshOf us draws = (h, ds)) := he
      clear hbad he
      go_wp2_with (first
        | (go_at_call 57; go_must (refine (out_any _ b ft _ dv' _ _ _ hi.out h hU).mono ?_; rintro e w3 ⟨rfl, hb3⟩; dsimp only; rw [decide_eq_false hmem]; have hi3 := hi.out.below hb3; have c2 := hi3.blk.cell 2 _ rfl; have hm1 : Hid (b1 ∈ ft ∧ MapF Try.prog 37 w3 b1 us.length (litI made)) := hi3.m1; have hi3 : Hid (IsO w3 b ft ⟨ds, n, us, made, hashes, signed⟩ dv' (.map (some b1)) (.map (some b2)) (.map (some b3))) := hi3))
        | (refine wpList_store rfl _ _ _ 61 rfl 72 law37 (by kernel_rfl) hm1.out.2 (by unfold maxLen; omega) rfl _ (thingVal noThing) _ rfl rfl (key37 hU) ?_; intro w4 hm4 hg4))
      go_ret
      rw [HE.out]
      have hnone : made h = none := by
        have := hi3.out.made h
        dsimp only at this
        rw [decide_eq_false hmem] at this
        simpa using this
      rw [litI_at, hnone] at hm4
      simp only [Option.map_none, Option.isSome_none, Bool.false_eq_true, if_false] at hm4
      rw [litI_upd] at hm4
      refine ⟨rfl, ⟨dv', n, ?_, ?_⟩, ?_⟩
      · unfold Tab.named
        rw [HE.out]
        refine hi3.out.putMade hg4 (us' := us ++ [h]) (made' := fun x => if x = h then some noThing else made x) (by simpa using hm4) (by simpa using hN) (by simp) (upd_made (T := ⟨ds, n, us, made, hashes, signed⟩) noThing hi3.out.made)
      · unfold Tab.full Tab.named
        rw [HE.out]
        intro i h1 h2
        rcases hs.out.2.2.1 i h1 h2 with r | r
        · simp [r]
        · simp [r]
      · exact ((ht.out.widen (by simp)).same (Turn.of_below hb3)).same (Turn.of_grown hg4 (by simp))
end Go.Proofs.Ytcacioogklgahaa
