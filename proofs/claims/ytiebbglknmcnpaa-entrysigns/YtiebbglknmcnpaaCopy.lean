/-
  More laws of byte slices in memory, over any program: copy into an own row of any length, and rows just made.
-/
import Derived.Test.YtiebbglknmcnpaaBase
namespace Go.Proofs.Ytiebbglknmcnpaa
set_option linter.unusedVariables false
open Go.RowKit

theorem Oct.zeros (n : Nat) : Oct (List.replicate n 0) := fun x hx => by have := List.eq_of_mem_replicate hx; omega

/-- What 'make' made is a row of zeros. -/
theorem own_made (w : World) (e : TypeId) (L C : Nat) (hLC : L ≤ C) (hC : C ≤ maxLen) :
    Own w.heap.size e (w.alloc (.cells (cs8 (List.replicate C 0)).toArray e)) (.slice (some ⟨w.heap.size, 0, none⟩) L C) (List.replicate L 0) := by
  refine ⟨Oct.zeros L, by simp [cs8], .inr ⟨w.heap.size, C, (cs8 (List.replicate C 0)).toArray, by simp, Nat.le_refl _, heap_alloc_new w _, by simpa using hLC, hC, by simp [cs8], ?_⟩⟩
  simp [cs8, Nat.min_eq_left hLC]

theorem Own.lower {B B' : Nat} {e : TypeId} {w : World} {v : Value} {l : List Int} (h : Own B e w v l) (hB : B' ≤ B) : Own B' e w v l := by
  obtain ⟨ho, h1, h2⟩ := h
  refine ⟨ho, h1, ?_⟩
  rcases h2 with h2 | ⟨g, c, cur, hv, hb, hr⟩
  · exact .inl h2
  · exact .inr ⟨g, c, cur, hv, Nat.le_trans hB hb, hr⟩

section
variable {P : Program} {w : World} {ops : Array Oper} {rest : List Oper} {o : Oper} {a : Act} {Q : Exit → Act → World → Prop}

/-- 'copy(out, x)' into an own row at least as long as x. -/
theorem wpList_copy_into (t e : TypeId) (hT : ByteTy P t e) (hgd : o.guard = none) (d s : Operand)
    (ho : o.op = .call { callee := .builtin .copy, args := #[d, s], argTypes := #[t, t] })
    (B : Nat) (v : Value) (l : List Int) (hd : a.eval d = v) (hown : Own B e w v l) (y : Value) (m : List Int) (hs : a.eval s = y) (hm : Rd w y m) (hle : m.length ≤ l.length)
    (w0 : World) (hb : Below B w0 w)
    (h : ∀ w', Own B e w' v (m ++ l.drop m.length) → Below B w0 w' → wpList P ops Q rest (a.put o.dst (goInt m.length)) w') :
    wpList P ops Q (o :: rest) a w := by
  obtain ⟨hoct, sp, cap, rfl, h1, h2, h3, h4⟩ := hm
  obtain ⟨ho1, ho2, ho3⟩ := hown
  rcases ho3 with ⟨rfl, hn⟩ | ⟨g, c, cur, rfl, hBg, hg, hn, hc, hsz, htake⟩
  · have hl : l = [] := List.eq_nil_of_length_eq_zero hn
    subst hl
    have hm0 : m = [] := List.eq_nil_of_length_eq_zero (by simpa using hle)
    subst hm0
    refine wpList_copy_nothing hgd d s t t ho e hT.under hT.size none sp 0 0 0 cap hd (by simpa using hs) (by simp) ?_
    exact h w ⟨Oct.nil, World.ownsRow_nil _ _ _ _⟩ hb
  · have hcur : l.length ≤ cur.toList.length := by simp; omega
    refine wpList_copy_splice hgd d s t t ho e hT.under hT.size (some ⟨g, 0, none⟩) sp l.length c m.length cap hd hs g 0 cur.toList e (by simpa using hg) (cs8 m) (by rw [cs8_length]; exact (Nat.min_eq_left hle).symm)
      (fun hp => ⟨rfl, ?_⟩) (by rw [cs8_length]; omega) (cs8_one m) B w0 hb hBg ?_
    · obtain ⟨b, off, rfl, hc⟩ := h4 (by simpa [cs8] using hp)
      refine ⟨_, rfl, fun j u hu => ?_⟩
      obtain ⟨hj, rfl⟩ := cs8_some hu
      rw [Addr.add_lit]
      exact hc j hj
    · intro w' hrow hb'
      rw [cs8_length]
      refine h w' ⟨hoct.append (ho1.drop _), ?_⟩ hb'
      have hlen : (m ++ l.drop m.length).length = l.length := by simp; omega
      refine ⟨by simp [cs8], .inr ⟨g, c, _, by rw [hlen], hBg, hrow.out, by rw [hlen]; exact hn, hc, ?_, ?_⟩⟩
      · simp only [List.size_toArray]
        rw [length_splice _ _ _ (by rw [cs8_length]; omega)]
        simpa using hsz
      · rw [hlen]
        simp only [Nat.mul_one] at htake ⊢
        rw [cs8_append]
        have hd2 : cs8 (l.drop m.length) = (cs8 l).drop m.length := by simp [cs8]
        rw [hd2, ← htake]
        simp only [splice, List.take_zero, List.nil_append, Nat.zero_add, cs8_length]
        rw [List.take_append, List.take_of_length_le (by rw [cs8_length]; exact hle), cs8_length, List.drop_take]
end
end Go.Proofs.Ytiebbglknmcnpaa
