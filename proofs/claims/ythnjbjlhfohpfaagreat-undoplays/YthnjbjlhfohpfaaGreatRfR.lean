/-
  What two logs hold: memberships alone.
  The reference's Name and Right.
  The reference's place and Right.
-/
import Derived.Test.YthnjbjlhfohpfaaGreatUdN
import Derived.Test.YthnjbjlhfohpfaaGreatLgt
import Derived.Test.YthnjbjlhfohpfaaGreatRgt
import Derived.Test.YthnjbjlhfohpfaaGreatWirP
import Derived.Test.YthnjbjlhfohpfaaGreatTsA
import Derived.Test.YthnjbjlhfohpfaaGreatTrU
namespace Go.Proofs.YthnjbjlhfohpfaaGreat
section
set_option linter.unusedVariables false
set_option linter.unusedSimpArgs false
set_option synthInstance.maxSize 20000
set_option maxHeartbeats 2000000
set_option maxRecDepth 20000
open Go.RowKit Go.Maps

theorem LtO.asymm {x y : OpT} (h : LtO x y) (h2 : LtO y x) : False := ltP_asymm (show ltP x.a y.a from h) h2
theorem strict_uniq : ∀ (a b : List OpT), a.Pairwise LtO → b.Pairwise LtO → (∀ x, x ∈ a ↔ x ∈ b) → a = b
  | [], [], _, _, _ => rfl
  | [], y :: b, _, _, h => absurd ((h y).2 List.mem_cons_self) (by simp)
  | x :: a, [], _, _, h => absurd ((h x).1 List.mem_cons_self) (by simp)
  | x :: a, y :: b, ha, hb, h => by
    obtain ⟨a1, a2⟩ := List.pairwise_cons.1 ha
    obtain ⟨b1, b2⟩ := List.pairwise_cons.1 hb
    have e : x = y := by
      rcases List.mem_cons.1 ((h x).1 List.mem_cons_self) with e | hx
      · exact e
      · rcases List.mem_cons.1 ((h y).2 List.mem_cons_self) with e | hy
        · exact e.symm
        · exact absurd (a1 y hy) (fun q => LtO.asymm q (b1 x hx))
    subst e
    have hir : ¬ LtO x x := fun q => LtO.asymm q q
    rw [strict_uniq a b a2 b2 fun z => ⟨fun hz => ?_, fun hz => ?_⟩]
    · rcases List.mem_cons.1 ((h z).1 (List.mem_cons_of_mem _ hz)) with e | q
      · subst e; exact absurd (a1 z hz) hir
      · exact q
    · rcases List.mem_cons.1 ((h z).2 (List.mem_cons_of_mem _ hz)) with e | q
      · subst e; exact absurd (b1 z hz) hir
      · exact q
theorem ob_str {U : List ST} (h : StrS U) : (Ob U).Pairwise LtO := by
  unfold Ob opsS
  rw [List.map_map]
  exact List.pairwise_map.2 (h.imp fun {a b} q => q)
theorem ob_uniq {U T : List ST} (hs : StrS U) (ht : StrS T) (h : ∀ x, x ∈ Ob U ↔ x ∈ Ob T) : Ob U = Ob T := strict_uniq _ _ (ob_str hs) (ob_str ht) h
theorem str_one : ∀ {l : List OpT}, l.Pairwise LtO → ∀ {x y : OpT}, x ∈ l → y ∈ l → x.a = y.a → x = y
  | [], _, _, _, hx, _, _ => by cases hx
  | z :: l, h, x, y, hx, hy, e => by
    obtain ⟨h1, h2⟩ := List.pairwise_cons.1 h
    have irr : ∀ {p q : OpT}, LtO p q → p.a = q.a → False := fun {p q} h e => by
      have h' : ltP p.a q.a := h
      rw [e] at h'
      exact ltP_irrefl _ h'
    rcases List.mem_cons.1 hx with rfl | hx'
    · rcases List.mem_cons.1 hy with rfl | hy'
      · rfl
      · exact (irr (h1 y hy') e).elim
    · rcases List.mem_cons.1 hy with rfl | hy'
      · exact (irr (h1 x hx') e.symm).elim
      · exact str_one h2 hx' hy' e
theorem hasO_iff {O : List OpT} {a : S} : hasO a O = true ↔ ∃ q ∈ O, q.a = a := by
  unfold hasO
  rw [List.any_eq_true]
  exact ⟨fun ⟨q, h, e⟩ => ⟨q, h, of_decide_eq_true e⟩, fun ⟨q, h, e⟩ => ⟨q, h, decide_eq_true e⟩⟩
theorem hasO_no {O : List OpT} {a : S} (h : hasO a O = false) : ∀ q ∈ O, q.a ≠ a := fun q hq e => by
  rw [hasO_iff.2 ⟨q, hq, e⟩] at h
  cases h
theorem lo_hi_mem {O : List OpT} {a : S} {x : OpT} : (x ∈ loO a O ∨ x ∈ hiO a O) ↔ (x ∈ O ∧ x.a ≠ a) := by
  unfold loO hiO
  rw [List.mem_filter, List.mem_filter]
  constructor
  · rintro (⟨h1, h2⟩ | ⟨h1, h2⟩)
    · exact ⟨h1, fun e => ltP_irrefl a (by have := of_decide_eq_true h2; rwa [e] at this)⟩
    · exact ⟨h1, fun e => ltP_irrefl a (by have := of_decide_eq_true h2; rwa [e] at this)⟩
  · rintro ⟨h1, h2⟩
    by_cases h : ltP x.a a
    · exact .inl ⟨h1, decide_eq_true h⟩
    · refine .inr ⟨h1, decide_eq_true ?_⟩
      apply Classical.byContradiction
      intro h3
      exact h2 (ltP_total h h3)
section
variable {U T : List ST} {q : OpT} {a : S} {n k : Int}
theorem InsB.mem (h : InsB U q T n k) : (rightO q = false ∧ T = U) ∨ (rightO q = true ∧ hasO q.a (Ob U) = true ∧ T = U) ∨ (rightO q = true ∧ hasO q.a (Ob U) = false ∧ ∀ x, x ∈ Ob T ↔ x = bare q ∨ x ∈ Ob U) := by
  rcases h with ⟨h1, _, _, h2⟩ | ⟨h1, ⟨h2, _, _, h3⟩ | ⟨h2, _, h3, _⟩⟩
  · exact .inl ⟨h1, h2⟩
  · exact .inr (.inl ⟨h1, h2, h3⟩)
  · refine .inr (.inr ⟨h1, h2, fun x => ?_⟩)
    rw [h3, List.mem_append, List.mem_cons]
    have := lo_hi_mem (O := Ob U) (a := q.a) (x := x)
    constructor
    · rintro (h | h | h)
      · exact .inr (this.1 (.inl h)).1
      · exact .inl h
      · exact .inr (this.1 (.inr h)).1
    · rintro (h | h)
      · exact .inr (.inl h)
      · rcases this.2 ⟨h, hasO_no h2 x h⟩ with h | h
        · exact .inl h
        · exact .inr (.inr h)
theorem lo_hi_len (a : S) : ∀ O : List OpT, (loO a O).length + (hiO a O).length ≤ O.length
  | [] => Nat.le_refl _
  | x :: O => by
    have ih := lo_hi_len a O
    have e1 : loO a (x :: O) = if ltP x.a a then x :: loO a O else loO a O := by
      unfold loO; rw [List.filter_cons]; by_cases h : ltP x.a a <;> simp [h]
    have e2 : hiO a (x :: O) = if ltP a x.a then x :: hiO a O else hiO a O := by
      unfold hiO; rw [List.filter_cons]; by_cases h : ltP a x.a <;> simp [h]
    rw [e1, e2]
    by_cases h1 : ltP x.a a
    · rw [if_pos h1, if_neg (ltP_asymm h1)]; simp; omega
    · rw [if_neg h1]; split <;> simp <;> omega
theorem InsB.len (h : InsB U q T n k) : T.length ≤ U.length + 1 := by
  rcases h with ⟨_, _, _, rfl⟩ | ⟨_, ⟨_, _, _, rfl⟩ | ⟨_, _, h3, _⟩⟩
  · omega
  · omega
  · have := congrArg List.length h3
    have h4 := lo_hi_len q.a (Ob U)
    simp only [List.length_append, List.length_cons, Ob_len] at this h4
    omega
theorem RemB.mem (h : RemB U a T n k) (x : OpT) : x ∈ Ob T ↔ x ∈ Ob U ∧ x.a ≠ a := by
  rcases h with ⟨h1, _, _, rfl⟩ | ⟨_, _, h3, _⟩
  · exact ⟨fun h => ⟨h, hasO_no h1 x h⟩, fun h => h.1⟩
  · rw [h3, List.mem_append]
    exact lo_hi_mem
theorem RemB.len (h : RemB U a T n k) : T.length ≤ U.length := by
  rcases h with ⟨_, _, _, rfl⟩ | ⟨_, _, h3, _⟩
  · exact Nat.le_refl _
  · have := congrArg List.length h3
    have h4 := lo_hi_len a (Ob U)
    simp only [List.length_append, Ob_len] at this h4
    omega
end
/-! ### The law on two logs -/
/-- The first log holds the right ones of O. -/
def HoldA (O : List OpT) (U : List ST) : Prop := ∀ x, x ∈ Ob U ↔ ∃ q ∈ O, rightO q = true ∧ bare q = x
theorem HoldA.snoc {O : List OpT} {U T : List ST} {q : OpT} {n k : Int} (h : HoldA O U) (hd : ∀ p ∈ O, p.a ≠ q.a) (hi : InsB U q T n k) : HoldA (O ++ [q]) T := fun x => by
  rcases hi.mem with ⟨h1, rfl⟩ | ⟨h1, h2, _⟩ | ⟨h1, _, h3⟩
  · rw [h x]
    constructor
    · rintro ⟨p, hp, r⟩; exact ⟨p, List.mem_append_left _ hp, r⟩
    · rintro ⟨p, hp, r1, r2⟩
      rcases List.mem_append.1 hp with hp | hp
      · exact ⟨p, hp, r1, r2⟩
      · obtain rfl : p = q := by simpa using hp
        rw [h1] at r1; cases r1
  · obtain ⟨p, hp, e⟩ := hasO_iff.1 h2
    obtain ⟨p', hp', _, rfl⟩ := (h p).1 hp
    exact absurd e (hd p' hp')
  · rw [h3 x, h x]
    constructor
    · rintro (rfl | ⟨p, hp, r⟩)
      · exact ⟨q, List.mem_append_right _ List.mem_cons_self, h1, rfl⟩
      · exact ⟨p, List.mem_append_left _ hp, r⟩
    · rintro ⟨p, hp, r1, r2⟩
      rcases List.mem_append.1 hp with hp | hp
      · exact .inr ⟨p, hp, r1, r2⟩
      · obtain rfl : p = q := by simpa using hp
        exact .inl r2.symm
/-- The second log while others come: X: those of it that are not the first one's have such times; Y: what must be there. -/
structure HoldB (UA UB : List ST) (X : List OpT) (Y : List OpT) : Prop where
  x : ∀ p ∈ Ob UB, p ∈ Ob UA ∨ (hasO p.a (Ob UA) = false ∧ ∃ r ∈ X, r.a = p.a)
  y : ∀ q ∈ Y, rightO q = true → bare q ∈ Ob UB
theorem HoldB.more {UA UB T : List ST} {X Y : List OpT} {q : OpT} {n k : Int} (h : HoldB UA UB X Y) (hn : hasO q.a (Ob UA) = false) (hq : q ∈ X) (hi : InsB UB q T n k) : HoldB UA T X Y := by
  rcases hi.mem with ⟨_, rfl⟩ | ⟨_, _, rfl⟩ | ⟨_, _, h3⟩
  · exact h
  · exact h
  · refine ⟨fun p hp => ?_, fun p hp hr => (h3 _).2 (.inr (h.y p hp hr))⟩
    rcases (h3 p).1 hp with rfl | hp
    · exact .inr ⟨hn, q, hq, rfl⟩
    · exact h.x p hp
theorem HoldB.own {UA UB T : List ST} {X Y : List OpT} {q : OpT} {n k : Int} (h : HoldB UA UB X Y) (hA : StrS UA) (hq : rightO q = true → bare q ∈ Ob UA) (hi : InsB UB q T n k) : HoldB UA T X (Y ++ [q]) := by
  have old : ∀ {V : List ST}, (∀ p ∈ Ob UB, p ∈ Ob V) → (rightO q = true → bare q ∈ Ob V) → ∀ p ∈ Y ++ [q], rightO p = true → bare p ∈ Ob V := fun {V} h1 h2 p hp hr => by
    rcases List.mem_append.1 hp with hp | hp
    · exact h1 _ (h.y p hp hr)
    · obtain rfl : p = q := by simpa using hp
      exact h2 hr
  rcases hi.mem with ⟨h1, rfl⟩ | ⟨h1, h2, rfl⟩ | ⟨h1, _, h3⟩
  · exact ⟨h.x, old (fun p hp => hp) (fun hr => by rw [h1] at hr; cases hr)⟩
  · refine ⟨h.x, old (fun p hp => hp) (fun hr => ?_)⟩
    obtain ⟨p, hp, e⟩ := hasO_iff.1 h2
    have hqa := hq h1
    rcases h.x p hp with r | ⟨r, _⟩
    · rw [str_one (ob_str hA) hqa r (show (bare q).a = p.a from e.symm)]; exact hp
    · exact absurd e.symm (hasO_no r (bare q) hqa)
  · refine ⟨fun p hp => ?_, old (fun p hp => (h3 p).2 (.inr hp)) (fun _ => (h3 _).2 (.inl rfl))⟩
    rcases (h3 p).1 hp with rfl | hp
    · exact .inl (hq h1)
    · exact h.x p hp
/-- The second log while others go. -/
structure HoldC (UA UB : List ST) (X : List OpT) : Prop where
  x : ∀ p ∈ Ob UB, p ∈ Ob UA ∨ (hasO p.a (Ob UA) = false ∧ ∃ r ∈ X, r.a = p.a)
  y : ∀ p ∈ Ob UA, p ∈ Ob UB
theorem HoldC.keep {UA UB : List ST} {X : List OpT} {q : OpT} (h : HoldC UA UB (q :: X)) (hn : hasO q.a (Ob UA) = true) : HoldC UA UB X := by
  refine ⟨fun p hp => ?_, h.y⟩
  rcases h.x p hp with r | ⟨r, r', hr, e⟩
  · exact .inl r
  · rcases List.mem_cons.1 hr with rfl | hr
    · rw [e, r] at hn; cases hn
    · exact .inr ⟨r, r', hr, e⟩
theorem HoldC.go {UA UB T : List ST} {X : List OpT} {q : OpT} {n k : Int} (h : HoldC UA UB (q :: X)) (hn : hasO q.a (Ob UA) = false) (hi : RemB UB q.a T n k) : HoldC UA T X := by
  refine ⟨fun p hp => ?_, fun p hp => (hi.mem p).2 ⟨h.y p hp, hasO_no hn p hp⟩⟩
  obtain ⟨h1, h2⟩ := (hi.mem p).1 hp
  rcases h.x p h1 with r | ⟨r, r', hr, e⟩
  · exact .inl r
  · rcases List.mem_cons.1 hr with rfl | hr
    · exact absurd e.symm h2
    · exact .inr ⟨r, r', hr, e⟩
theorem HoldC.eq {UA UB : List ST} (h : HoldC UA UB []) (hA : StrS UA) (hB : StrS UB) : Ob UA = Ob UB := ob_uniq hA hB fun x => ⟨h.y x, fun hx => by
  rcases h.x x hx with r | ⟨_, r, hr, _⟩
  · exact r
  · cases hr⟩
end

section
set_option linter.unusedVariables false
set_option linter.unusedSimpArgs false
set_option synthInstance.maxSize 20000
set_option maxHeartbeats 2000000
set_option maxRecDepth 20000
open Go.RowKit Go.Maps

theorem bar_iff (n : Nat) : bar n = true ↔ n < 32 ∨ n = 127 ∨ n = 47 ∨ n = 126 := by
  unfold bar
  simp [or_assoc]
theorem name62 (s : ByteArray) (w : World) : Calls Tryz.prog 47 #[.string s] w fun e w' => e = .returned (.bool (nameB s)) ∧ w' = w := by
  have HN : Hid (nameB s = (decide (1 ≤ s.size ∧ s.size ≤ 24) && !(s.toList == [46]) && !(s.toList == [46, 46]) && !hasBar s)) := (rfl : nameB s = _)
  by_cases h1 : s.size < 1
  · have h1' : (s.size : Int) < 1 := by omega
    have HE : Hid (nameB s = false) := by
      show _ = _
      rw [HN.out, decide_eq_false (by omega)]; rfl
    go_enter Tryz.func47, Tryz.ntmps47
    go_wp2
    go_ret
    exact ⟨by rw [HE.out]; rfl, rfl⟩
  · have h1' : ¬ (s.size : Int) < 1 := by omega
    by_cases h2 : 24 < s.size
    · have h2' : (24 : Int) < (s.size : Int) := by omega
      have HE : Hid (nameB s = false) := by
        show _ = _
        rw [HN.out, decide_eq_false (by omega)]; rfl
      go_enter Tryz.func47, Tryz.ntmps47
      go_wp2
      go_ret
      exact ⟨by rw [HE.out]; rfl, rfl⟩
    · have h2' : ¬ (24 : Int) < (s.size : Int) := by omega
      have HN2 : Hid (nameB s = (!(s.toList == [46]) && !(s.toList == [46, 46]) && !hasBar s)) := by
        show _ = _
        rw [HN.out, decide_eq_true (by omega)]; simp
      clear HN
      by_cases h3 : s.toList = [46]
      · have h3b : (s.toList == [46]) = true := by simp [h3]
        have HE : Hid (nameB s = false) := by show _ = _; rw [HN2.out, h3b]; rfl
        go_enter Tryz.func47, Tryz.ntmps47
        go_wp2
        go_ret
        exact ⟨by rw [HE.out]; rfl, rfl⟩
      · have h3b : (s.toList == [46]) = false := by simp [h3]
        by_cases h4 : s.toList = [46, 46]
        · have h4b : (s.toList == [46, 46]) = true := by simp [h4]
          have HE : Hid (nameB s = false) := by show _ = _; rw [HN2.out, h4b]; simp
          go_enter Tryz.func47, Tryz.ntmps47
          go_wp2
          go_ret
          exact ⟨by rw [HE.out]; rfl, rfl⟩
        · have h4b : (s.toList == [46, 46]) = false := by simp [h4]
          have HN3 : Hid (nameB s = !hasBar s) := by show _ = _; rw [HN2.out, h3b, h4b]; simp
          have HS : Hid (s.size ≤ 24) := by show _ ≤ _; omega
          clear HN2
          go_enter Tryz.func47, Tryz.ntmps47
          go_wp2
          clear h1 h1' h2 h2' h3 h3b h4 h4b
          go_loopw [3] (fun i wr => ∃ (k : Nat), i = .int .i64 (k : Int) ∧ k ≤ s.size ∧ Hid (∀ j, j < k → bar (s.get! j).toNat = false) ∧ wr = w) (fun i _ => s.size - (intOf i).toNat)
          case atStart => exact ⟨0, rfl, Nat.zero_le _, fun j hj => by omega, rfl⟩
          case round =>
            obtain ⟨k, rfl, hk, HJ, rfl⟩ := hrel
            have hs24 : s.size ≤ 24 := HS.out
            by_cases hlt : k < s.size
            · have hkI : (k : Int) < (s.size : Int) := by omega
              have e1 : s.get! k = s[k] := by
                have h1 := get_list s k hlt
                have h2 : s.data.toList[k]? = some s[k] := by
                  simp [Array.getElem?_toList]
                  exact Array.getElem?_eq_getElem hlt
                exact Option.some.inj (h1.symm.trans h2)
              have HB : Hid (bar s[k].toNat = true → nameB s = false) := fun hb => by
                rw [HN3.out, (hasBar_iff s).2 ⟨k, hlt, by rw [e1]; exact hb⟩]
                rfl
              have HG : Hid (bar s[k].toNat = false → ∀ j, j < k + 1 → bar (s.get! j).toNat = false) := fun hb j hj => by
                by_cases e : j = k
                · subst e; rw [e1]; exact hb
                · exact HJ.out j (by omega)
              clear e1
              by_cases c1 : s[k].toNat < 32
              · have c1I : (s[k].toNat : Int) < 32 := by omega
                have HF : Hid (nameB s = false) := HB.out ((bar_iff _).2 (by omega))
                clear HB HG
                go_wp2
                go_ret
                exact ⟨by rw [HF.out]; rfl, rfl⟩
              · have c1I : ¬ (s[k].toNat : Int) < 32 := by omega
                by_cases c2 : s[k].toNat = 127
                · have c2I : ((s[k].toNat : Int) == 127) = true := by rw [c2]; rfl
                  have HF : Hid (nameB s = false) := HB.out ((bar_iff _).2 (by omega))
                  clear HB HG
                  go_wp2
                  go_ret
                  exact ⟨by rw [HF.out]; rfl, rfl⟩
                · have c2I : ((s[k].toNat : Int) == 127) = false := by simp; omega
                  by_cases c3 : s[k].toNat = 47
                  · have c3I : ((s[k].toNat : Int) == 47) = true := by rw [c3]; rfl
                    have HF : Hid (nameB s = false) := HB.out ((bar_iff _).2 (by omega))
                    clear HB HG
                    go_wp2
                    go_ret
                    exact ⟨by rw [HF.out]; rfl, rfl⟩
                  · have c3I : ((s[k].toNat : Int) == 47) = false := by simp; omega
                    by_cases c4 : s[k].toNat = 126
                    · have c4I : ((s[k].toNat : Int) == 126) = true := by rw [c4]; rfl
                      have HF : Hid (nameB s = false) := HB.out ((bar_iff _).2 (by omega))
                      clear HB HG
                      go_wp2
                      go_ret
                      exact ⟨by rw [HF.out]; rfl, rfl⟩
                    · have c4I : ((s[k].toNat : Int) == 126) = false := by simp; omega
                      have HJ2 : Hid (∀ j, j < k + 1 → bar (s.get! j).toNat = false) := HG.out (by
                        cases hb : bar s[k].toNat with
                        | false => rfl
                        | true => have h5 := (bar_iff _).1 hb; omega)
                      clear HB HG
                      go_wp2
                      go_roundw
                      case rel => exact ⟨k + 1, by go_num, by omega, HJ2, trivial⟩
                      case measure => simp [intOf]; omega
            · have hkI : ¬ (k : Int) < (s.size : Int) := by omega
              have HF : Hid (nameB s = true) := by
                show _ = _
                rw [HN3.out]
                cases hb : hasBar s with
                | false => rfl
                | true =>
                  obtain ⟨i, hi, hb⟩ := (hasBar_iff s).1 hb
                  rw [HJ.out i (by omega)] at hb
                  cases hb
              go_wp2
              go_ret
              exact ⟨by rw [HF.out]; rfl, rfl⟩
end

section
set_option linter.unusedVariables false
set_option linter.unusedSimpArgs false
set_option synthInstance.maxSize 20000
set_option maxHeartbeats 2000000
set_option maxRecDepth 20000
open Go.RowKit Go.Maps

theorem wpList_okx {P : Program} {w w' : World} {ops : Array Oper} {rest : List Oper} {o : Oper} {a : Act} {Q : Exit → Act → World → Prop} {v : Value} (hr : (execOp a.eval o).run P w = .ok (.value v) w') (hw : Region.wanted o (yielded ops a.tmps) = true) (h : wpList P ops Q rest (a.put o.dst v) w') : wpList P ops Q (o :: rest) a w := wpList_okw hw hr h
theorem sameAt_dec (s t : S) : sameAt s t = decide (s = t) := by
  obtain ⟨a, b⟩ := s
  obtain ⟨c, d⟩ := t
  show (a == c && b == d) = _
  by_cases h1 : a = c <;> by_cases h2 : b = d <;> simp [h1, h2]
def placeB (s : S) : Bool := decide (s = (0, 0)) || rightB s
theorem place61 (s : S) (w : World) : Calls Tryz.prog 46 #[sv s] w fun e w' => e = .returned (.bool (placeB s)) ∧ Below w.heap.size w w' := by
  have HP : Hid (∀ w', Calls Tryz.prog 45 #[sv s] w' fun e w'' => e = .returned (.bool (rightB s)) ∧ Below w'.heap.size w' w'') := fun w' => refright_any s w'
  have HQ : Hid (placeB s = (decide (s = (0, 0)) || rightB s)) := (rfl : placeB s = _)
  generalize placeB s = pb at HQ
  generalize rightB s = rb at HP HQ
  obtain ⟨w1, hw1⟩ : ∃ w1, w1 = w.alloc (.cells (sc s).toArray 35) := ⟨_, rfl⟩
  obtain ⟨B0, hB0⟩ : ∃ B0, B0 = w.heap.size := ⟨_, rfl⟩
  obtain ⟨i1, i2⟩ := box_new hw1 hB0
  have HB1 : Hid (Below w.heap.size w w1) := i1
  have HX : Hid (w1.rangeAt B0 0 (sc s)) := i2.range0
  clear i1 i2
  go_enter Tryz.func46, Tryz.ntmps46
  go_upto_region 1 with (refine wpList_okw rfl (exec_box24 (n := s) (.tmp 0) rfl rfl) ?_)
  rw [← hw1, ← hB0]
  clear hw1 hB0
  cases hE : decide (s = (0, 0))
  · rw [hE] at HQ
    have HE : Hid (decide (s = (0, 0)) = false) := hE
    clear hE
    go_wp2_with (first
      | (refine wpList_okw rfl (exec_load24n (n := s) (.tmp 1) rfl rfl HX.out) ?_)
      | (refine wpList_okw rfl (exec_eql24 (a := s) (b := (0, 0)) (.tmp 3) (.tmp 4) rfl rfl rfl) ?_; rw [HE.out])
      | (go_at_call 45; go_must (refine (HP.out _).mono ?_; rintro r w2 ⟨rfl, hb2⟩; have HB2 : Hid (Below w.heap.size w w2) := bnext HB1.out hb2; clear hb2)))
    go_ret
    exact ⟨by rw [HQ.out]; rfl, HB2.out⟩
  · rw [hE] at HQ
    have HE : Hid (decide (s = (0, 0)) = true) := hE
    clear hE
    go_wp2_with (first
      | (refine wpList_okw rfl (exec_load24n (n := s) (.tmp 1) rfl rfl HX.out) ?_)
      | (refine wpList_okw rfl (exec_eql24 (a := s) (b := (0, 0)) (.tmp 3) (.tmp 4) rfl rfl rfl) ?_; rw [HE.out]))
    go_ret
    exact ⟨by rw [HQ.out]; rfl, HB1.out⟩
theorem rightO_form (q : OpT) : rightO q = (rightB q.a && rightB q.n && !(!decide (q.k = 4) && decide (0 < q.vn)) && !(!decide (q.k = 1) && q.d) && (if q.k = 1 then decide (q.n = q.a) && placeB q.p && nameB q.s else if q.k = 2 then placeB q.p && nameB q.s else if q.k = 3 then decide (q.p = (0, 0)) && (q.s.toList == []) else if q.k = 4 then decide (q.p = (0, 0)) && (q.s.toList == []) && decide (q.vn ≤ 400) else false)) := by
  unfold rightO placedB bareB placeB
  simp only [sameAt_dec]
  have e0 : ((q.vn : Int) == 0) = !decide (0 < q.vn) := by
    by_cases h : 0 < q.vn
    · simp [h]; omega
    · have : q.vn = 0 := by omega
      simp [this]
  have e4 : decide ((q.vn : Int) ≤ 400) = decide (q.vn ≤ 400) := by
    by_cases h : q.vn ≤ 400
    · rw [decide_eq_true h, decide_eq_true (by omega)]
    · rw [decide_eq_false h, decide_eq_false (by omega)]
  rw [e0, e4]
  generalize decide (0 < q.vn) = v0
  generalize decide (q.vn ≤ 400) = v4
  generalize decide (q.p = (0, 0)) = z
  generalize rightB q.p = rp
  generalize nameB q.s = nm
  generalize (q.s.toList == []) = em
  generalize q.d = d
  by_cases k1 : q.k = 1
  · simp only [k1, if_pos rfl, decide_true]
    by_cases e : q.n = q.a
    · rw [e]
      simp only [decide_true]
      generalize rightB q.a = ra
      revert v0 v4 z rp nm em d ra
      decide
    · rw [decide_eq_false e]
      simp
  · by_cases k2 : q.k = 2
    · simp only [k1, k2, if_pos rfl]
      generalize rightB q.a = ra
      generalize rightB q.n = rn
      generalize decide (q.n = q.a) = e1
      revert v0 v4 z rp nm em d ra rn e1
      decide
    · by_cases k3 : q.k = 3
      · simp only [k1, k2, k3, if_pos rfl]
        generalize rightB q.a = ra
        generalize rightB q.n = rn
        generalize decide (q.n = q.a) = e1
        revert v0 v4 z rp nm em d ra rn e1
        decide
      · by_cases k4 : q.k = 4
        · simp only [k1, k2, k3, k4, if_pos rfl]
          generalize rightB q.a = ra
          generalize rightB q.n = rn
          generalize decide (q.n = q.a) = e1
          revert v0 v4 z rp nm em d ra rn e1
          decide
        · simp [k1, k2, k3, k4]
end
end Go.Proofs.YthnjbjlhfohpfaaGreat
