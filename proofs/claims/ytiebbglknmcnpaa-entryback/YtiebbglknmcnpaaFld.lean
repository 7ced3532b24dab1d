/-
  A writer of fields: what it has put (Fld); some numbers, an epoch, and what a sealed body is bound to.
-/
import Derived.Test.YtiebbglknmcnpaaRightE
import Derived.Test.YtiebbglknmcnpaaAt
namespace Go.Proofs.Ytiebbglknmcnpaa
set_option linter.unusedVariables false
set_option linter.unusedSimpArgs false
set_option synthInstance.maxSize 20000
set_option maxHeartbeats 1000000
set_option maxRecDepth 20000
open Go.RowKit Go.Maps

theorem count_any (n : Int) (w : World) (hn : I64 n) : Calls Try.prog 59 #[.int .i64 n] w fun e w' => e = .returned (.int .u64 (n.toNat : Int)) ∧ w' = w := by
  obtain ⟨h1, h2⟩ := hn
  obtain ⟨N, hN⟩ : ∃ N : Nat, n.toNat = N := ⟨_, rfl⟩
  rw [hN]
  by_cases h : n < 0
  · have HN : Hid ((N : Int) = 0) := by show _ = _; omega
    clear hN
    go_enter Try.func59, Try.ntmps59
    go_wp2
    go_ret
    exact ⟨by rw [HN.out]; rfl, rfl⟩
  · have HN : Hid ((N : Int) = n) := by show _ = _; omega
    clear hN
    go_enter Try.func59, Try.ntmps59
    go_wp2
    go_ret
    exact ⟨by rw [HN.out]; rfl, rfl⟩

/-- Block b holds a writer of fields that has put l. -/
def Fld (w : World) (b : Nat) (l : List Int) : Prop := ∃ v, Blk w b 75 [v] ∧ Own (b + 1) 5 w v l
theorem Fld.lt {w : World} {b : Nat} {l : List Int} (h : Fld w b l) : b < w.heap.size := h.choose_spec.1.lt
theorem Fld.below {w w' : World} {b : Nat} {l : List Int} (h : Fld w b l) (hb : Below w.heap.size w w') : Fld w' b l := by
  obtain ⟨v, h1, h2⟩ := h
  exact ⟨v, h1.below hb, h2.kept (below_grown hb)⟩
theorem Fld.put {w w2 : World} {b : Nat} {l l' : List Int} {v' : Value} (h : Fld w b l) (hb : Below w.heap.size w w2) (ho : Own w.heap.size 5 w2 v' l') : Fld (w2.setCell ⟨b, 0, none⟩ v') b l' ∧ w.grownBy (w2.setCell ⟨b, 0, none⟩ v') (some b) := by
  obtain ⟨v, h1, h2⟩ := h
  have hlt := h1.lt
  refine ⟨⟨v', (h1.below hb).set 0 v', ?_⟩, grown_none (below_grown hb) (grown_setCell _ _ _ _)⟩
  refine Own.lower (B := w.heap.size) (show Own w.heap.size 5 (w2.setCell ⟨b, 0, none⟩ v') v' l' from ⟨ho.1, ho.2.kept (grown_setCell _ _ _ _) ?_⟩) (by omega)
  cases hk : v'.ownBlock with
  | none => exact .inl rfl
  | some k =>
    refine .inr fun e => ?_
    have := (ho.2.lt k hk).1
    have := Option.some.inj e
    omega
theorem fld_new (w : World) : Fld (w.alloc (.cells #[.slice none 0 0] 75)) w.heap.size [] := ⟨.slice none 0 0, blk_new w [.slice none 0 0] 75, own_nil _ _ _⟩
theorem Fld.rd {w : World} {b : Nat} {l : List Int} (h : Fld w b l) : ∃ v, Blk w b 75 [v] ∧ Own (b + 1) 5 w v l ∧ ∃ a cap, v = .slice a l.length cap := by
  obtain ⟨v, h1, h2⟩ := h
  obtain ⟨a, cap, e⟩ := h2.rd.len
  exact ⟨v, h1, h2, a, cap, e⟩
/-- Bytes that are read lie in no such block. -/
theorem Rd.pastF {w w' : World} {v : Value} {l m : List Int} {b : Nat} (h : Rd w v l) (hf : Fld w b m) (hg : w.grownBy w' (some b)) : Rd w' v l := by
  obtain ⟨u, h1, h2, a0, c0, rfl⟩ := hf.rd
  obtain ⟨ho, a, cap, rfl, g1, g2, g3, g4⟩ := h
  refine ⟨ho, a, cap, rfl, g1, g2, g3, fun hp => ?_⟩
  obtain ⟨d, off, rfl, hc⟩ := g4 hp
  refine ⟨d, off, rfl, fun j hj => hg.cell (hc j hj) fun e => ?_⟩
  obtain rfl : d = b := by simpa using e
  have hcj := hc j hj
  unfold Blk at h1
  rcases Nat.eq_zero_or_pos (off + j) with h0 | h0
  · rw [h0] at hcj
    simp [World.cell?, h1] at hcj
  · have hn : w.cell? ⟨d, off + j, none⟩ = none := by
      simp [World.cell?, h1]
      omega
    rw [hn] at hcj
    cases hcj

/-- The forms of numbers, one behind the other. -/
def formsL (ns : List Int) : List Int := ns.flatMap fun x => form x.toNat
theorem formsL_len {ns : List Int} (h : ∀ x ∈ ns, U64 x) : (formsL ns).length ≤ 10 * ns.length := by
  unfold formsL
  induction ns with
  | nil => simp
  | cons x l ih =>
    rw [List.flatMap_cons, List.length_append, List.length_cons]
    have h1 := ih (fun y hy => h y (List.mem_cons_of_mem _ hy))
    have h2 := h x List.mem_cons_self
    unfold U64 at h2
    have h3 := form_le10 (n := x.toNat) (by omega)
    omega

theorem nums_any (w : World) (b : Nat) (l : List Int) (vs : Value) (ns : List Int) (h : Fld w b l) (hv : RdU w vs ns) (hl : l.length ≤ 100000) (hn : ns.length ≤ 100) (hout : Out [b] vs) :
    Calls Try.prog 39 #[ptr b, vs] w fun e w' => e = .returned (.tuple #[]) ∧ Fld w' b (l ++ formsL ns) ∧ w.grownBy w' (some b) := by
  have HV : Hid (RdU w vs ns) := hv
  have HO : Hid (Out [b] vs) := hout
  have HF : Hid (Fld w b l) := h
  have HU : Hid (∀ x ∈ ns, U64 x) := hv.1
  obtain ⟨hu, va, vc, rfl, hc1, hc2, hc3, hc4⟩ := hv
  unfold maxLen at hc2
  clear h hout hu hc3 hc4
  go_enter Try.func39, Try.ntmps39
  go_wp2
  go_loopw [8] (fun i wr => ∃ j : Nat, i = .int .i64 j ∧ j ≤ ns.length ∧ Hid (Fld wr b (l ++ formsL (ns.take j))) ∧ Hid (w.grownBy wr (some b))) (fun i _ => ns.length - (intOf i).toNat)
  case atStart => exact ⟨0, rfl, Nat.zero_le _, (by show Fld _ _ _; simpa [formsL] using HF.out), grown_refl _ _⟩
  case round =>
    obtain ⟨j, rfl, hj, HFr, HGr⟩ := hrel
    by_cases hlt : j < ns.length
    · obtain ⟨hu, va', vc', e, _, _, _, hc4⟩ := HV.out.turn (Turn.of_grown (ft := [b]) HGr.out (by simp)) HO.out
      obtain ⟨rfl, rfl⟩ : va = va' ∧ vc = vc' := by simpa using e
      obtain ⟨d, off, rfl, hc⟩ := hc4 (by omega)
      have cj := hc j hlt
      have hx : U64 (ns.getD j 0) := hu _ (by rw [List.getD_eq_getElem?_getD, List.getElem?_eq_getElem hlt]; exact List.getElem_mem hlt)
      have ht : formsL (ns.take (j + 1)) = formsL (ns.take j) ++ form (ns.getD j 0).toNat := by
        rw [List.take_succ_eq_append_getElem hlt]
        unfold formsL
        rw [List.flatMap_append, List.getD_eq_getElem?_getD, List.getElem?_eq_getElem hlt]
        simp
      obtain ⟨N, hN⟩ : ∃ N : Nat, ns.getD j 0 = (N : Int) := ⟨(ns.getD j 0).toNat, by unfold U64 at hx; omega⟩
      rw [hN] at cj hx ht
      have HN : Hid (N < 18446744073709551616) := by show _ < _; unfold U64 at hx; omega
      have HT : Hid (formsL (ns.take (j + 1)) = formsL (ns.take j) ++ form N) := by show _ = _; rw [ht, Int.toNat_natCast]
      have HLen : Hid ((l ++ formsL (ns.take j)).length ≤ 110000) := by
        show _ ≤ _
        have := formsL_len (ns := ns.take j) (fun x hx => HU.out x (List.mem_of_mem_take hx))
        rw [List.length_append]
        rw [List.length_take] at this
        omega
      obtain ⟨v, X, own, a, cap, rfl⟩ := HFr.out.rd
      have x0 := X.cell 0 _ rfl
      have HOwn : Hid (Own (b + 1) 5 wr (.slice a (l ++ formsL (ns.take j)).length cap) (l ++ formsL (ns.take j))) := own
      have HX : Hid (Blk wr b 75 [.slice a (l ++ formsL (ns.take j)).length cap]) := X
      generalize hL : l ++ formsL (ns.take j) = L at *
      have HL : Hid (l ++ formsL (ns.take j) = L) := hL
      clear hL hN hx ht hc hc4 hu own X e
      go_wp2_with (go_at_call 63; go_must (refine (num_any _ L N wr HOwn.out.rd (by have := HLen.out; omega) HN.out).mono ?_; rintro e w2 ⟨v2, rfl, hown2, hb2⟩; obtain ⟨a2, c2, rfl⟩ := hown2.rd.len; rw [List.length_append] at hown2; have X2 := HX.out.below hb2; have y0 := X2.cell 0 _ rfl; have f0 := X2.frozen 0))
      go_roundw
      case rel =>
        have hp := HFr.out.put hb2 hown2
        exact ⟨j + 1, by go_num, by omega, (by show Fld _ _ _; rw [HT.out, ← List.append_assoc, HL.out]; exact hp.1), grown_trans HGr.out hp.2 (fun k hk => .inl hk)⟩
      case measure => simp [intOf]; omega
    · have HE : Hid (ns.take j = ns) := List.take_of_length_le (by omega)
      go_wp2
      go_end0
      exact ⟨rfl, by have := HFr.out; rwa [HE.out] at this, HGr.out⟩

theorem epoch_any (w : World) (b : Nat) (l : List Int) (n : Int) (h : Fld w b l) (hl : l.length ≤ 1000000) (hn : I64 n) :
    Calls Try.prog 61 #[ptr b, .int .i64 n] w fun e w' => e = .returned (.tuple #[]) ∧ Fld w' b (l ++ form (zig n)) ∧ w.grownBy w' (some b) := by
  have HF : Hid (Fld w b l) := h
  have HN : Hid (I64 n) := hn
  obtain ⟨v, X, own, a, cap, rfl⟩ := h.rd
  have x0 := X.cell 0 _ rfl
  have HOwn : Hid (Own (b + 1) 5 w (.slice a l.length cap) l) := own
  have HX : Hid (Blk w b 75 [.slice a l.length cap]) := X
  clear h X own hn
  go_enter Try.func61, Try.ntmps61
  go_wp2_with (go_at_call 76; go_must (refine (int_any _ l n w HOwn.out.rd (by omega) HN.out).mono ?_; rintro e w2 ⟨v2, rfl, hown2, hb2⟩; obtain ⟨a2, c2, rfl⟩ := hown2.rd.len; rw [List.length_append] at hown2; have X2 := HX.out.below hb2; have y0 := X2.cell 0 _ rfl; have f0 := X2.frozen 0))
  go_end0
  exact ⟨rfl, HF.out.put hb2 hown2⟩
end Go.Proofs.Ytiebbglknmcnpaa
