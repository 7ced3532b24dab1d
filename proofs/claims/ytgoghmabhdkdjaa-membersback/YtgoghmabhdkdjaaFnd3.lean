/-
  Now and May of the program.
-/
import Derived.Test.YtgoghmabhdkdjaaFnd2
namespace Go.Proofs.Ytgoghmabhdkdjaa
set_option linter.unusedVariables false
set_option linter.unusedSimpArgs false
set_option synthInstance.maxSize 20000
set_option maxHeartbeats 2000000
set_option maxRecDepth 20000
open Go.RowKit Go.Maps

theorem may24 {w : World} {v : Value} {l : List Mb} (hv : RowF mc w v l) (e who i ep : Int) : Calls Try.prog 24 #[stv v e, .int .i64 who, .int .i64 i, .int .i64 ep] w fun r w' => r = .returned (.int .i64 (mayM ⟨l, e⟩ who i ep)) ∧ Below w.heap.size w w' := by
  obtain ⟨av, cap, rfl⟩ := hv.len
  have HF : Hid (Calls Try.prog 17 #[stv (.slice av l.length cap) e, .int .i64 who] (w.alloc (.cells #[.slice av l.length cap, .int .i64 e] 28)) fun r w' => r = .returned (.tuple #[mv ((findM l who).getD zm), .bool (findM l who).isSome]) ∧ Below (w.heap.size + 1) (w.alloc (.cells #[.slice av l.length cap, .int .i64 e] 28)) w') := by
    have := find17 (hv.below (balloc (Below.refl _ _) (.cells #[.slice av l.length cap, .int .i64 e] 28))) who e
    simp only [World.size_alloc] at this
    exact this
  have HK : Hid (∀ w', Below (w.heap.size + 1) (w.alloc (.cells #[.slice av l.length cap, .int .i64 e] 28)) w' → Blk w' w.heap.size 28 [.slice av l.length cap, .int .i64 e] ∧ Below w.heap.size w w') := fun w' hb =>
    ⟨(blk_new w _ 28).block (hb.block _ (by omega)), bnext (balloc (Below.refl _ _) _) (by simpa using hb)⟩
  have HU : Hid (∀ b w', Calls Try.prog 40 #[.bool b, .int .i64 10] w' fun r w'' => r = .returned (.int .i64 (if b = true then 0 else 10)) ∧ w'' = w') := fun b w' => unless40 b 10 w'
  unfold mayM
  dsimp only
  cases hf : findM l who with
  | none =>
    rw [hf] at HF
    have HF2 : Hid (Calls Try.prog 17 #[.agg #[.slice av l.length cap, .int .i64 e], .int .i64 who] (w.alloc (.cells #[.slice av l.length cap, .int .i64 e] 28)) fun r w' => r = .returned (.tuple #[.agg #[.int .i64 0, .int .u64 0, .int .i64 0, .int .i64 0, .int .i64 0], .bool false]) ∧ Below (w.heap.size + 1) (w.alloc (.cells #[.slice av l.length cap, .int .i64 e] 28)) w') := HF
    clear hf hv HF
    dsimp only
    unfold stv
    go_enter Try.func24, Try.ntmps24
    go_wp2_with (go_at_call 17; go_must (refine HF2.out.mono ?_; rintro r w2 ⟨rfl, hb2⟩; obtain ⟨X, HB⟩ := HK.out w2 hb2; have k0 := X.cell 0 _ rfl; have k1 := X.cell 1 _ rfl; clear X))
    go_ret
    exact ⟨rfl, balloc HB _⟩
  | some m =>
    rw [hf] at HF
    obtain ⟨x0, x1, x2, x3, x4⟩ := m
    have HF2 : Hid (Calls Try.prog 17 #[.agg #[.slice av l.length cap, .int .i64 e], .int .i64 who] (w.alloc (.cells #[.slice av l.length cap, .int .i64 e] 28)) fun r w' => r = .returned (.tuple #[.agg #[.int .i64 x0, .int .u64 x1, .int .i64 x2, .int .i64 x3, .int .i64 x4], .bool true]) ∧ Below (w.heap.size + 1) (w.alloc (.cells #[.slice av l.length cap, .int .i64 e] 28)) w') := HF
    have HC : Hid (∀ w', Calls Try.prog 41 #[.agg #[.int .i64 x0, .int .u64 x1, .int .i64 x2, .int .i64 x3, .int .i64 x4], .int .i64 i, .int .i64 ep] w' fun r w'' => r = .returned (.bool (countsM ⟨x0, x1, x2, x3, x4⟩ i ep)) ∧ Below w'.heap.size w' w'') := fun w' => counts41 ⟨x0, x1, x2, x3, x4⟩ i ep w'
    dsimp only
    generalize countsM ⟨x0, x1, x2, x3, x4⟩ i ep = cb at *
    have tk : cb = true ∨ cb = false := by cases cb <;> simp
    clear hf hv HF
    unfold stv
    by_cases he : ep = -1
    · subst he
      rw [if_pos rfl]
      by_cases hw : who = 0
      · subst hw
        rw [if_pos rfl]
        go_enter Try.func24, Try.ntmps24
        go_wp2_with (first
          | (go_at_call 17; go_must (refine HF2.out.mono ?_; rintro r w2 ⟨rfl, hb2⟩; obtain ⟨X, HB⟩ := HK.out w2 hb2; have k0 := X.cell 0 _ rfl; have k1 := X.cell 1 _ rfl; clear X))
          | (go_at_call 40; go_must (refine (HU.out _ _).mono ?_; rintro r w3 ⟨rfl, rfl⟩)))
        go_ret
        exact ⟨rfl, balloc HB _⟩
      · rw [if_neg hw]
        have hw2 : (who == 0) = false := by simpa using hw
        clear hw
        go_enter Try.func24, Try.ntmps24
        go_wp2_with (first
          | (go_at_call 17; go_must (refine HF2.out.mono ?_; rintro r w2 ⟨rfl, hb2⟩; obtain ⟨X, HB⟩ := HK.out w2 hb2; have k0 := X.cell 0 _ rfl; have k1 := X.cell 1 _ rfl; clear X))
          | (go_at_call 40; go_must (refine (HU.out _ _).mono ?_; rintro r w3 ⟨rfl, rfl⟩)))
        go_ret
        exact ⟨rfl, balloc HB _⟩
    · rw [if_neg he]
      have he2 : (ep == -1) = false := by simpa using he
      clear he
      by_cases hg : e < ep
      · rw [if_pos hg]
        go_enter Try.func24, Try.ntmps24
        go_wp2_with (first
          | (go_at_call 17; go_must (refine HF2.out.mono ?_; rintro r w2 ⟨rfl, hb2⟩; obtain ⟨X, HB⟩ := HK.out w2 hb2; have k1 := (X.alloc (.cells #[.int .i64 x0, .int .u64 x1, .int .i64 x2, .int .i64 x3, .int .i64 x4] 51)).cell 1 _ rfl; clear X)))
        go_ret
        exact ⟨rfl, balloc HB _⟩
      · rw [if_neg hg]
        rcases tk with rfl | rfl
        all_goals
         go_enter Try.func24, Try.ntmps24
         go_wp2_with (first
          | (go_at_call 17; go_must (refine HF2.out.mono ?_; rintro r w2 ⟨rfl, hb2⟩; obtain ⟨X, HB⟩ := HK.out w2 hb2; have k1 := (X.alloc (.cells #[.int .i64 x0, .int .u64 x1, .int .i64 x2, .int .i64 x3, .int .i64 x4] 51)).cell 1 _ rfl; clear X))
          | (go_at_call 41; go_must (refine (HC.out _).mono ?_; rintro r w3 ⟨rfl, hb3⟩))
          | (go_at_call 40; go_must (refine (HU.out _ _).mono ?_; rintro r w4 ⟨rfl, rfl⟩)))
         go_ret
         exact ⟨rfl, bnext (balloc HB _) hb3⟩
theorem nowM_snoc {l : List Mb} {k : Nat} {m : Mb} (h : l[k]? = some m) : nowM (l.take (k + 1)) = nowM (l.take k) ++ (if on m = true then [m] else []) := by
  have hk := (List.getElem?_eq_some_iff.1 h)
  unfold nowM
  rw [List.take_succ_eq_append_getElem hk.1, List.filter_append, hk.2]
  congr 1
  by_cases ho : on m = true <;> simp [ho]
theorem nowM_le (l : List Mb) (k : Nat) : (nowM (l.take k)).length ≤ l.length := by
  unfold nowM
  refine Nat.le_trans (List.length_filter_le _ _) ?_
  rw [List.length_take]
  omega
theorem own_below {w w' : World} {B : Nat} {e : TypeId} {k : Nat} {v : Value} {n : Nat} {xs : List Value} (h : w.ownsRow B e k v n xs) (hb : Below w.heap.size w w') : w'.ownsRow B e k v n xs := ownsRow_block h (fun j hj => hb.block j (h.lt j hj).2)
theorem now19 {w : World} {v : Value} {l : List Mb} (hv : RowF mc w v l) (hl : l.length ≤ 10000) (e : Int) : Calls Try.prog 19 #[stv v e] w fun r w' => ∃ v', r = .returned v' ∧ RowF mc w' v' (nowM l) ∧ Below w.heap.size w w' := by
  obtain ⟨av, cap, rfl⟩ := hv.len
  have hcap := hv.caps
  have hc1 : l.length ≤ cap := hcap.2.1
  have hc2 : cap ≤ 9223372036854775807 := hcap.2.2
  have HV : Hid (∀ w', Below w.heap.size w w' → RowF mc w' (.slice av l.length cap) l) := fun w' hb => hv.below hb
  obtain ⟨n, hn⟩ : ∃ n, n = l.length := ⟨_, rfl⟩
  have HN : Hid (n = l.length) := hn
  rw [← hn] at hc1 HV hl ⊢
  clear hv hcap hn
  unfold stv
  go_enter Try.func19, Try.ntmps19
  go_wp2
  go_loopw [3, 9] (fun vo i wr => ∃ (k : Nat), i = .int .i64 k ∧ k ≤ n ∧ Hid (Below w.heap.size w wr) ∧ Hid (wr.ownsRow 0 51 5 vo (nowM (l.take k)).length (flat mc (nowM (l.take k)))) ∧ Hid (∀ j, vo.ownBlock = some j → w.heap.size ≤ j)) (fun _ i _ => n - (intOf i).toNat)
  case atStart => exact ⟨0, rfl, by omega, (show Below _ _ _ from balloc (Below.refl _ _) _), World.ownsRow_nil _ _ _ _, (fun j hj => by cases hj)⟩
  case round =>
    obtain ⟨k, rfl, hk, HB, HO, HNw⟩ := hrel
    by_cases hki : k < n
    · obtain ⟨m, hm⟩ : ∃ m, l[k]? = some m := ⟨_, List.getElem?_eq_getElem (by have := HN.out; omega)⟩
      have HM : Hid (nowM (l.take (k + 1)) = nowM (l.take k) ++ (if on m = true then [m] else [])) := nowM_snoc hm
      have HL : Hid ((nowM (l.take k)).length ≤ n) := (by have := nowM_le l k; rw [← HN.out] at this; exact this)
      obtain ⟨b, off, ea, hc⟩ := (HV.out wr HB.out).at mc_len hm
      subst ea
      have HR : Hid (∀ w', Calls Try.prog 39 #[mv m] w' fun r w'' => r = .returned (.bool (!on m)) ∧ Below w'.heap.size w' w'') := fun w' => revoked39 m w'
      obtain ⟨av2, cp2, hvo, hcp⟩ := slice_of_own HO.out
      subst hvo
      have HBk : Hid (∀ w', Below (wr.heap.size + 1) (wr.alloc (.cells (mc m).toArray 51)) w' → Blk w' wr.heap.size 51 (mc m) ∧ Below w.heap.size w w' ∧ w'.ownsRow 0 51 5 (.slice av2 (nowM (l.take k)).length cp2) (nowM (l.take k)).length (flat mc (nowM (l.take k)))) := fun w' hb => 
        have hb' : Below (wr.alloc (.cells (mc m).toArray 51)).heap.size (wr.alloc (.cells (mc m).toArray 51)) w' := by simpa using hb
        have hb2 : Below wr.heap.size wr w' := bnext (balloc (Below.refl _ _) _) hb'
        ⟨(blk_new wr (mc m) 51).below hb', bnext HB.out hb2, own_below HO.out hb2⟩
      have HRow : Hid (∀ w' : World, RowF mc (w'.alloc (.cells (mc m).toArray 51)) (.slice (some ⟨w'.heap.size, 0, none⟩) 1 1) [m]) := fun w' => rowF_one w' m 51
      obtain ⟨x0, x1, x2, x3, x4⟩ := m
      have c0 := hc 0 _ rfl; have c1 := hc 1 _ rfl; have c2 := hc 2 _ rfl; have c3 := hc 3 _ rfl; have c4 := hc 4 _ rfl
      simp only [Nat.add_zero] at c0
      unfold mv at HR
      have HBk : Hid (∀ w', Below (wr.heap.size + 1) (wr.alloc (.cells #[.int .i64 x0, .int .u64 x1, .int .i64 x2, .int .i64 x3, .int .i64 x4] 51)) w' → Blk w' wr.heap.size 51 [.int .i64 x0, .int .u64 x1, .int .i64 x2, .int .i64 x3, .int .i64 x4] ∧ Below w.heap.size w w' ∧ w'.ownsRow 0 51 5 (.slice av2 (nowM (l.take k)).length cp2) (nowM (l.take k)).length (flat mc (nowM (l.take k)))) := HBk
      have HRow : Hid (∀ w' : World, RowF mc (w'.alloc (.cells #[.int .i64 x0, .int .u64 x1, .int .i64 x2, .int .i64 x3, .int .i64 x4] 51)) (.slice (some ⟨w'.heap.size, 0, none⟩) 1 1) [(⟨x0, x1, x2, x3, x4⟩ : Mb)]) := HRow
      dsimp only at HR
      have HNK : Hid (((nowM (l.take k)) ++ [(⟨x0, x1, x2, x3, x4⟩ : Mb)]).length ≤ 100000) := (show _ ≤ _ by rw [List.length_append]; have := HL.out; simp; omega)
      generalize hnn : nowM (l.take k) = acc at *
      generalize on ⟨x0, x1, x2, x3, x4⟩ = ob at *
      clear hc hm hnn
      cases ob
      · have HM2 : Hid (nowM (l.take (k + 1)) = acc) := by have := HM.out; simp at this; exact this
        clear HM
        go_wp2_with (go_at_call 39; go_must (refine (HR.out _).mono ?_; rintro r w2 ⟨rfl, hb2⟩; simp only [World.size_alloc] at hb2; obtain ⟨X, HB2, HO2⟩ := HBk.out w2 hb2; have j0 := X.cell 0 _ rfl; have j1 := X.cell 1 _ rfl; have j2 := X.cell 2 _ rfl; have j3 := X.cell 3 _ rfl; have j4 := X.cell 4 _ rfl; clear X))
        go_roundw
        case rel =>
          refine ⟨k + 1, by go_num, by omega, HB2, ?_, HNw⟩
          rw [HM2.out]
          exact HO2
        case measure => simp [intOf]; omega
      · have HM2 : Hid (nowM (l.take (k + 1)) = acc ++ [(⟨x0, x1, x2, x3, x4⟩ : Mb)]) := by have := HM.out; simp only [if_true] at this; exact this
        clear HM
        go_wp2_with (first
          | (go_at_call 39; go_must (refine (HR.out _).mono ?_; rintro r w2 ⟨rfl, hb2⟩; simp only [World.size_alloc] at hb2; obtain ⟨X, HB2, HO2⟩ := HBk.out w2 hb2; have j0 := X.cell 0 _ rfl; have j1 := X.cell 1 _ rfl; have j2 := X.cell 2 _ rfl; have j3 := X.cell 3 _ rfl; have j4 := X.cell 4 _ rfl; clear X))
          | (at_builtin; go_must (refine wpList_append_rows ty26 mc_len (by omega) rfl (.tmp 16) (.tmp 18) rfl _ acc rfl (HO2.alloc _) _ [(⟨x0, x1, x2, x3, x4⟩ : Mb)] rfl (HRow.out w2) (flat_mc_one _) (by have := HNK.out; rw [List.length_append] at this; omega) ?_; intro v3 w3 hr3 hg3 hn3; obtain ⟨a3, q3, hv3, hq3⟩ := slice_of_own hr3; subst hv3)))
        go_roundw
        case rel =>
          refine ⟨k + 1, by go_num, by omega, ?_, ?_, ?_⟩
          · exact (balloc HB2 _).grown hg3 (balloc HB2 _).size (fun j hj => HNw.out j hj)
          · rw [HM2.out]
            rw [List.length_append] at hr3 ⊢
            exact hr3
          · intro j hj
            rw [List.length_append] at hn3
            rcases hn3 j hj with r | r
            · exact HNw.out j r
            · have := (balloc HB2 (.cells #[.int .i64 x0, .int .u64 x1, .int .i64 x2, .int .i64 x3, .int .i64 x4] 51)).size
              omega
        case measure => simp [intOf]; omega
    · go_wp2
      go_ret
      have e : l.take k = l := List.take_of_length_le (by have := HN.out; omega)
      have := HO.out
      rw [e] at this
      exact ⟨_, rfl, rowF_own mc_len this, HB.out⟩
end Go.Proofs.Ytgoghmabhdkdjaa
