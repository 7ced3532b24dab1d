/-
  The oracle by lists: what the law of sealed bytes asks; a byte that is turned; a byte of an own row written.
-/
import Derived.Test.YtcacioogklgahaaPure3
import Derived.Test.YtcacioogklgahaaForm
namespace Go.Proofs.Ytcacioogklgahaa
set_option linter.unusedVariables false
set_option synthInstance.maxSize 20000
open Classical
open Go.RowKit

theorem xor_u8 (x y : Int) (hx : 0 ≤ x ∧ x < 256) (hy : 0 ≤ y ∧ y < 256) (h0 : y ≠ 0) : 0 ≤ bits .xor .u8 x y ∧ bits .xor .u8 x y < 256 ∧ bits .xor .u8 x y ≠ x := by
  have e : bits .xor .u8 x y = ((BitVec.ofInt 8 x ^^^ BitVec.ofInt 8 y).toNat : Int) := by
    show IntKind.u8.wrap ((BitVec.ofInt 8 x ^^^ BitVec.ofInt 8 y).toNat : Int) = _
    have := (BitVec.ofInt 8 x ^^^ BitVec.ofInt 8 y).isLt
    rw [IntKind.wrap_u8]
    omega
  have hlt := (BitVec.ofInt 8 x ^^^ BitVec.ofInt 8 y).isLt
  rw [e]
  refine ⟨by omega, by omega, fun h => h0 ?_⟩
  have hX : (BitVec.ofInt 8 x).toNat = x.toNat := by rw [BitVec.toNat_ofInt]; omega
  have h1 : BitVec.ofInt 8 x ^^^ BitVec.ofInt 8 y = BitVec.ofInt 8 x := BitVec.eq_of_toNat_eq (by rw [hX]; omega)
  have h2 : BitVec.ofInt 8 y = 0#8 := by
    have h3 : BitVec.ofInt 8 x ^^^ (BitVec.ofInt 8 x ^^^ BitVec.ofInt 8 y) = BitVec.ofInt 8 x ^^^ BitVec.ofInt 8 x := by rw [h1]
    rw [← BitVec.xor_assoc, BitVec.xor_self, BitVec.zero_xor] at h3
    exact h3
  have h4 : (BitVec.ofInt 8 y).toNat = 0 := by rw [h2]; rfl
  rw [BitVec.toNat_ofInt] at h4
  omega

theorem own_set {B : Nat} {w : World} {v : Value} {l : List Int} (h : Own B 5 w v l) {j : Nat} (hj : j < l.length) : ∃ g cap, v = .slice (some ⟨g, 0, none⟩) l.length cap ∧ B ≤ g ∧ g < w.heap.size ∧ l.length ≤ cap ∧ cap ≤ maxLen ∧ w.cell? ⟨g, j, none⟩ = some (.int .u8 (l.getD j 0)) ∧ w.frozen? ⟨g, j, none⟩ = false ∧
    ∀ x : Int, 0 ≤ x ∧ x < 256 → Rd (w.setCell ⟨g, j, none⟩ (.int .u8 x)) v (l.set j x) := by
  obtain ⟨ho, h1, h2⟩ := h
  rcases h2 with ⟨rfl, hn⟩ | ⟨g, cap, cur, rfl, hb, hg, hn, hc, hs, ht⟩
  · omega
  · have X : Blk w g 5 cur.toList := by unfold Blk; simpa using hg
    have hcells : ∀ i, i < l.length → cur.toList[i]? = some (.int .u8 (l.getD i 0)) := fun i hi => by
      have := cs8_at l i hi
      rw [← ht, List.getElem?_take, if_pos (by omega)] at this
      exact this
    refine ⟨g, cap, rfl, hb, X.lt, hn, hc, X.cell j _ (hcells j hj), X.frozen j, fun x hx => ⟨fun y hy => ?_, some ⟨g, 0, none⟩, cap, by rw [List.length_set], by rw [List.length_set]; exact hn, hc, (fun h => by cases h), fun _ => ⟨g, 0, rfl, fun i hi => ?_⟩⟩⟩
    · rcases List.mem_or_eq_of_mem_set hy with h | h
      · exact ho y h
      · subst h; exact hx
    · rw [List.length_set] at hi
      have hsz : i < cur.toList.length := (List.getElem?_eq_some_iff.1 (hcells i hi)).1
      refine (X.set j (.int .u8 x)).cell (0 + i) _ ?_
      rw [Nat.zero_add, List.getElem?_set]
      by_cases e : j = i
      · subst e
        simp [hi]
        simpa using hsz
      · rw [if_neg e, hcells i hi, List.getD_eq_getElem?_getD, List.getD_eq_getElem?_getD, List.getElem?_set, if_neg e]

theorem set_ne {l : List Int} {j : Nat} {x : Int} (hj : j < l.length) (h : x ≠ l.getD j 0) : l.set j x ≠ l := fun e => by
  have h1 : (l.set j x).getD j 0 = l.getD j 0 := by rw [e]
  rw [List.getD_eq_getElem?_getD, List.getElem?_set, if_pos rfl, if_pos hj] at h1
  exact h h1

theorem seals_facts (ds : List Int) (hd : ∀ d ∈ ds, U64 d) {bd ot pl : List Int} (hob : Oct bd) (hop : Oct pl) (hl : pl.length ≤ 1500) :
    ∃ k j S1 S2, St.fresh ⟨ds, []⟩ = k ∧ St.put ⟨ds, []⟩ .key = S1 ∧ S1.fresh = j ∧ S1.put .key = S2 ∧ U64 k ∧ U64 j ∧ S1.rows.length = 1 ∧ S2.rows.length = 2 ∧
      (cls pl.length = -1 → S2.seal k bd pl = (([], 3), S2)) ∧
      (cls pl.length ≠ -1 → ∃ S3 bx, S2.seal k bd pl = ((bx, 0), S3) ∧ bx.length = 8 + zerosOf pl ∧ Oct bx ∧ S3.rows.length = 3 ∧ S3.open k bd bx = (pl, 0) ∧ S3.open j bd bx = ([], 11) ∧ S3.open k ot bx = (if bd = ot then (pl, 0) else ([], 5)) ∧
        (∀ c, c ≠ bx → S3.open k bd c = ([], 4)) ∧ ∀ l k b p, S3.find l = some (.seal k b p) → p.length ≤ 1000000) := by
  have hg0 := good0 hd
  generalize hS0 : (⟨ds, []⟩ : St) = S0 at hg0
  have hr0 : S0.rows = [] := by rw [← hS0]
  have hl0 : S0.rows.length = 0 := by rw [hr0]; rfl
  have hg1 : Good (S0.put .key) := put_good hg0 (by omega) (x := .key) trivial
  have hl1 : (S0.put .key).rows.length = 1 := by rw [put_len]; omega
  have hg2 : Good ((S0.put .key).put .key) := put_good hg1 (by omega) (x := .key) trivial
  have hl2 : ((S0.put .key).put .key).rows.length = 2 := by rw [put_len]; omega
  have ak1 := at_put_new hg0 (by omega) .key
  have ak2 := at_put_old hg1 (by omega) (x := .key) ak1
  have aj2 := at_put_new hg1 (by omega) .key
  have hUk := (at_ok hg1 ak1).1
  have hUj := (at_ok hg2 aj2).1
  have hkj : S0.fresh ≠ (S0.put .key).fresh := fun e => (fresh_ok hg1 (by omega)).2.1 (e ▸ mem_us ak1)
  have hns : ∀ h a b c, ((S0.put .key).put .key).at h ≠ some (.seal a b c) := fun h a b c e => by
    have := at_some e
    simp [St.put, hr0] at this
  generalize hS1 : S0.put .key = S1 at *
  generalize hS2 : S1.put .key = S2 at *
  refine ⟨S0.fresh, S1.fresh, S1, S2, rfl, rfl, rfl, hS2, hUk, hUj, hl1, hl2, fun hc => ?_, fun hc => ?_⟩
  · unfold St.seal; rw [if_pos ak2, if_pos hc]
  · have hUf := (fresh_ok hg2 (by omega)).2.2.1
    have af3 := at_put_new hg2 (by omega) (.seal S0.fresh bd pl)
    have hfind : ∀ l k b p, (S2.put (.seal S0.fresh bd pl)).find l = some (.seal k b p) → ofBe8 l = S2.fresh ∧ k = S0.fresh ∧ b = bd ∧ p = pl := fun l k b p e => by
      unfold St.find at e
      by_cases h8 : 8 ≤ l.length
      · rw [if_pos h8, put_at hg2 (by omega)] at e
        by_cases hf : ofBe8 l = S2.fresh
        · rw [if_pos hf] at e
          have e0 := Sum.inl.inj (Sum.inr.inj (Sum.inr.inj (Option.some.inj e)))
          exact ⟨hf, (congrArg (fun q => q.1) e0).symm, (congrArg (fun q => q.2.1) e0).symm, (congrArg (fun q => q.2.2) e0).symm⟩
        · rw [if_neg hf] at e
          exact absurd e (hns _ _ _ _)
      · rw [if_neg h8] at e; cases e
    refine ⟨S2.put (.seal S0.fresh bd pl), boxOf S2.fresh (zerosOf pl), ?_, boxOf_length _ _, (be8_oct _).append (Oct.zeros _), by rw [put_len]; omega, ?_, ?_, ?_, fun c hne => ?_, fun l k b p e => ?_⟩
    · unfold St.seal; rw [if_pos ak2, if_neg hc]
    · unfold St.open
      rw [find_box hUf, af3]
      simp only [if_pos (box_own hUf (zerosOf pl)), if_true]
    · unfold St.open
      rw [find_box hUf, af3]
      simp only [if_pos (box_own hUf (zerosOf pl)), if_neg hkj]
    · unfold St.open
      rw [find_box hUf, af3]
      simp only [if_pos (box_own hUf (zerosOf pl)), if_true]
    · unfold St.open
      split
      · rename_i k' b' p' e
        obtain ⟨hf, rfl, rfl, rfl⟩ := hfind _ _ _ _ e
        rw [if_neg (by rw [hf]; exact hne)]
      · rfl
    · obtain ⟨_, _, _, rfl⟩ := hfind _ _ _ _ e
      omega
end Go.Proofs.Ytcacioogklgahaa
