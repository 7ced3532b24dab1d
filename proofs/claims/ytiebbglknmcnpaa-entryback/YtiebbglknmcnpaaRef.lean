/-
  The contracts of the reference's forms, and of the form of a text: a number's, an Int's, bytes', a word's; appends under a guard.
-/
import Derived.Test.YtiebbglknmcnpaaPut
import Derived.Lib.AppendStr
namespace Go.Proofs.Ytiebbglknmcnpaa
set_option linter.unusedVariables false
open Go.RowKit

/-- A string's bytes, as numbers. -/
def sb (s : ByteArray) : List Int := s.data.toList.map fun b => (b.toNat : Int)
theorem sb_length (s : ByteArray) : (sb s).length = s.size := by rw [sb, List.length_map, Array.length_toList]; rfl
theorem sb_oct (s : ByteArray) : Oct (sb s) := fun x hx => by
  obtain ⟨b, _, rfl⟩ := List.mem_map.1 hx
  have := b.toNat_lt
  omega
theorem strCells_sb (s : ByteArray) : Lib.strCells s = cs8 (sb s) := by simp [Lib.strCells, cs8, sb]
theorem sb_strOfNums (l : List Int) (h : Oct l) : sb (strOfNums l) = l := by
  unfold sb
  rw [strOfNums_data, List.map_map]
  conv => rhs; rw [← List.map_id l]
  refine List.map_congr_left fun x hx => ?_
  have := h x hx
  simp [Function.comp]
  omega

theorem Own.kept {B : Nat} {e : TypeId} {w w' : World} {v : Value} {l : List Int} (h : Own B e w v l) (hg : w.grownBy w' none) : Own B e w' v l :=
  ⟨h.1, h.2.kept hg (by cases hv : v.ownBlock <;> simp)⟩

theorem own_one (w : World) (x : Int) (e : TypeId) (hx : 0 ≤ x ∧ x < 256) : Own w.heap.size e (w.alloc (.cells #[.int .u8 x] e)) (.slice (some ⟨w.heap.size, 0, none⟩) 1 1) [x] :=
  ⟨Oct.cons hx Oct.nil, by simp [cs8], .inr ⟨w.heap.size, 1, _, rfl, Nat.le_refl _, heap_alloc_new w _, Nat.le_refl _, by unfold maxLen; omega, by simp, by simp [cs8]⟩⟩

section
variable {P : Program} {w : World} {ops : Array Oper} {rest : List Oper} {o : Oper} {a : Act} {Q : Exit → Act → World → Prop}

theorem wpList_wanted (hw : Region.wanted o (yielded ops a.tmps) = true) (h : ∀ K : Act → World → Prop, (∀ a w, wpList P ops Q rest a w → K a w) → o.wp P a w K Q) : wpList P ops Q (o :: rest) a w :=
  wpList_step fun K hK => by rw [if_pos hw]; exact h K hK

/-- 'append(out, x...)' of bytes onto a row that the call made, under a guard that says yes. -/
theorem wpList_append_guard (t e : TypeId) (hT : ByteTy P t e) (hw : Region.wanted o (yielded ops a.tmps) = true) (s x : Operand)
    (ho : o.op = .call { callee := .builtin .append, args := #[s, x], argTypes := #[t, t] })
    (B : Nat) (v : Value) (l : List Int) (hs : a.eval s = v) (hown : Own B e w v l)
    (y : Value) (m : List Int) (hx : a.eval x = y) (hm : Rd w y m) (hlen : l.length + m.length ≤ 140737488355328) (hbase : B ≤ w.heap.size)
    (h : ∀ v' w', Own B e w' v' (l ++ m) → w.grownBy w' v.ownBlock → wpList P ops Q rest (a.put o.dst v') w') : wpList P ops Q (o :: rest) a w := by
  obtain ⟨hoct, ad, c, rfl, h1, h2, h3, h4⟩ := hm
  obtain ⟨i, hi, hz, hs1, hs2⟩ := info_parts hT.info
  have hmax : l.length + m.length ≤ maxLen := by unfold maxLen; omega
  refine wpList_wanted hw fun K hK => ?_
  rcases Nat.eq_zero_or_pos m.length with h0 | hp
  · have : m = [] := List.eq_nil_of_length_eq_zero h0
    subst this
    cases ad with
    | none =>
      have := h3 rfl
      subst this
      have hrun := run_append_owned_none (P := P) w B t o.type e i 1 hT.under hi v _ _ hown.2
      unfold Oper.wp
      simp [execOp, ho, resolve, invoke, builtin, hs, hx, hrun, Result.andThen]
      exact hK _ _ (h v w (by simpa using hown) (grown_refl _ _))
    | some ad =>
      refine wp_append_own w s x t ho B e i (.int .u8 0) 1 1 hT.under hi hz hs1 hs2 rfl (by decide) v l.length (cs8 l) hs hown.2 ad 0 c [] hx (by simp) (fun j u hu => by simp at hu) (fun u hu => by cases hu)
        (by simpa using hmax) (by simpa using hlen) hbase ?_
      intro v' w' ho' hg _
      exact hK _ _ (h v' w' ⟨by simpa using hown.1, by simpa using ho'⟩ hg)
  · obtain ⟨b, off, rfl, hc⟩ := h4 hp
    refine wp_append_own w s x t ho B e i (.int .u8 0) 1 1 hT.under hi hz hs1 hs2 rfl (by decide) v l.length (cs8 l) hs hown.2 ⟨b, off, none⟩ m.length c (cs8 m) hx (by simp [cs8]) (fun j u hu => ?_) (cs8_one m)
        hmax (by omega) hbase ?_
    · obtain ⟨hj, rfl⟩ := cs8_some hu
      rw [Addr.add_lit]
      exact hc j hj
    · intro v' w' ho' hg _
      refine hK _ _ (h v' w' ⟨hown.1.append hoct, ?_⟩ hg)
      rw [cs8_append, List.length_append]
      exact ho'

/-- 'append(out, s...)' of a string onto a row of bytes that the call made. -/
theorem wpList_append_str (t u e : TypeId) (hT : ByteTy P t e) (hu : P.underlying u = some .string) (hgd : o.guard = none) (sl x : Operand)
    (ho : o.op = .call { callee := .builtin .append, args := #[sl, x], argTypes := #[t, u] })
    (B : Nat) (v : Value) (l : List Int) (hs : a.eval sl = v) (hown : Own B e w v l) (s : ByteArray) (hx : a.eval x = .string s)
    (hlen : l.length + s.size ≤ 140737488355328) (hbase : B ≤ w.heap.size)
    (h : ∀ v' w', Own B e w' v' (l ++ sb s) → w.grownBy w' v.ownBlock → wpList P ops Q rest (a.put o.dst v') w') : wpList P ops Q (o :: rest) a w := by
  obtain ⟨i, hi, hz, hs1, hs2⟩ := info_parts hT.info
  refine Lib.wpList_append_own_string w hgd sl x t u ho B e i hT.under hu hi hz hs1 hs2 v l.length (cs8 l) hs hown.2 s hx (by unfold maxLen; omega) hlen hbase ?_
  intro v' w' ho' hg _
  refine h v' w' ⟨hown.1.append (sb_oct s), ?_⟩ hg
  rw [cs8_append, List.length_append, ← strCells_sb, sb_length]
  exact ho'
end

set_option maxHeartbeats 400000 in
set_option maxRecDepth 20000 in
theorem refnum_any (k : Nat) : ∀ (N : Nat) (w : World), N < 128 ^ k → k ≤ 10 → 0 < k → N ≤ 18446744073709551615 →
    Calls Try.prog 52 #[.int .u64 N] w fun e w' => ∃ v', e = .returned v' ∧ Own w.heap.size 5 w' v' (form N) ∧ Below w.heap.size w w' := by
  induction k with
  | zero => intro N w _ _ h _; omega
  | succ k ih =>
    intro N w hN hk _ hNN
    by_cases h : N < 128
    · clear hN
      go_enter Try.func52, Try.ntmps52
      go_wp2_with fail
      go_ret
      refine ⟨_, rfl, ?_, (Below.refl _ _).alloc (Nat.le_refl _) _⟩
      rw [form_lt h]
      exact own_one w N 5 (by omega)
    · have hk0 : 0 < k := by
        rcases Nat.eq_zero_or_pos k with rfl | hp
        · simp at hN; omega
        · exact hp
      have IH := fun w => ih (N / 128) w (by rw [Nat.pow_succ] at hN; omega) (by omega) hk0 (by omega)
      have hlen := form_length (n := N / 128) k (by rw [Nat.pow_succ] at hN; omega) hk0
      have HI : Hid (∀ w : World, Calls Try.prog 52 #[.int .u64 ((N : Int) / 128)] w fun e w' => ∃ v', e = .returned v' ∧ Own w.heap.size 5 w' v' (form (N / 128)) ∧ Below w.heap.size w w') := by
        intro w
        have := IH w
        rwa [show ((N / 128 : Nat) : Int) = (N : Int) / 128 by omega] at this
      clear ih hN IH
      go_enter Try.func52, Try.ntmps52
      go_wp2_with (first | (go_at_call 52; go_must (refine (HI.out _).mono ?_; rintro e w2 ⟨v2, rfl, hown2, hb2⟩)) | (at_builtin; go_must (refine wpList_append_cells 26 5 byteTy rfl (.tmp 12) (.tmp 15) rfl w.heap.size _ [(N : Int) % 128 + 128] rfl ((own_one w _ 5 (by omega)).kept (below_grown hb2)) _ (form (N / 128)) rfl hown2.rd (by simp only [List.length_cons, List.length_nil]; omega) (Nat.le_trans (by simp) hb2.size) ?_; intro v3 w3 hown3 hg3)))
      go_ret
      refine ⟨_, rfl, ?_, ?_⟩
      · rw [form_ge h]; simpa using hown3
      · exact ((own_one w _ 5 (by omega)).kept (below_grown hb2)).below (bnext ((Below.refl _ _).alloc (Nat.le_refl _) _) hb2) (Nat.le_refl _) hg3

theorem refnum (N : Nat) (w : World) (hN : N < 18446744073709551616) :
    Calls Try.prog 52 #[.int .u64 N] w fun e w' => ∃ v', e = .returned v' ∧ Own w.heap.size 5 w' v' (form N) ∧ Below w.heap.size w w' :=
  refnum_any 10 N w (by omega) (by omega) (by omega) (by omega)

set_option maxHeartbeats 400000 in
theorem refint_any (m : Int) (w : World) (hm : -9223372036854775808 ≤ m ∧ m ≤ 9223372036854775807) :
    Calls Try.prog 56 #[.int .i64 m] w fun e w' => ∃ v', e = .returned v' ∧ Own w.heap.size 5 w' v' (form (zig m)) ∧ Below w.heap.size w w' := by
  have C := fun w => refnum (zig m) w (zig_lt m hm)
  by_cases h : m < 0
  · have HC : Hid (∀ w : World, Calls Try.prog 52 #[.int .u64 (-(m + 1) * 2 + 1)] w fun e w' => ∃ v', e = .returned v' ∧ Own w.heap.size 5 w' v' (form (zig m)) ∧ Below w.heap.size w w') := by
      intro w
      have := C w
      rwa [show ((zig m : Nat) : Int) = -(m + 1) * 2 + 1 by unfold zig; rw [if_pos h]; omega] at this
    clear C
    go_enter Try.func56, Try.ntmps56
    go_wp2_with (go_at_call 52; go_must (refine (HC.out _).mono ?_; rintro e w2 ⟨v2, rfl, hown2, hb2⟩))
    go_ret
    exact ⟨_, rfl, hown2, hb2⟩
  · have HC : Hid (∀ w : World, Calls Try.prog 52 #[.int .u64 (m * 2)] w fun e w' => ∃ v', e = .returned v' ∧ Own w.heap.size 5 w' v' (form (zig m)) ∧ Below w.heap.size w w') := by
      intro w
      have := C w
      rwa [show ((zig m : Nat) : Int) = m * 2 by unfold zig; rw [if_neg h]; omega] at this
    clear C
    go_enter Try.func56, Try.ntmps56
    go_wp2_with (go_at_call 52; go_must (refine (HC.out _).mono ?_; rintro e w2 ⟨v2, rfl, hown2, hb2⟩))
    go_ret
    exact ⟨_, rfl, hown2, hb2⟩

set_option maxHeartbeats 400000 in
theorem refbytes_any (x : Value) (m : List Int) (w : World) (hx : Rd w x m) (hm : m.length ≤ 100000000) :
    Calls Try.prog 57 #[x] w fun e w' => ∃ v', e = .returned v' ∧ Own w.heap.size 5 w' v' (form m.length ++ m) ∧ Below w.heap.size w w' := by
  obtain ⟨ax, cx, rfl⟩ := hx.len
  have hf := form_le10 (n := m.length) (by omega)
  go_enter Try.func57, Try.ntmps57
  go_wp2_with (first | (go_at_call 52; go_must (refine (refnum m.length _ (by omega)).mono ?_; rintro e w2 ⟨v2, rfl, hown2, hb2⟩)) | (at_builtin; go_must (refine wpList_append_cells 26 5 byteTy rfl (.tmp 6) (.tmp 7) rfl w.heap.size _ (form m.length) rfl hown2 _ m rfl (hx.below hb2) (by omega) hb2.size ?_; intro v3 w3 hown3 hg3)))
  go_ret
  exact ⟨_, rfl, hown3, hown2.below hb2 (Nat.le_refl _) hg3⟩

end Go.Proofs.Ytiebbglknmcnpaa
