/-
  The small functions of epochs: bound, bytesOf, keyOf; the reference's eight; clones of bytes, of keys, of Olds.
  slices.IndexFunc and slices.ContainsFunc over any closure, at members and at wraps.
  Who is there: revoked, counts, unless, place, Find, Now, New, May of the program.
  Find, counts, New and May of the program.
  Now and May of the program.
  Which changes the program calls right.
  The wraps that the program calls right.
  Right of the program.
-/
import Derived.Test.YtjbpfhnagiacmaaGreatRng
import Derived.Test.YtjbpfhnagiacmaaGreatRowsF
import Derived.Shelf.Abstract
import Derived.BigQuiet
namespace Go.Proofs.YtjbpfhnagiacmaaGreat
section
set_option linter.unusedVariables false
set_option linter.unusedSimpArgs false
set_option synthInstance.maxSize 20000
set_option maxHeartbeats 2000000
set_option maxRecDepth 20000
open Go.RowKit Go.Maps
theorem bclone_any (v : Value) (l : List Int) (w : World) (hv : Rd w v l) (hl : l.length ≤ 1000000) :
    Calls Tryz.prog 71 #[v] w fun e w' => ∃ v', e = .returned v' ∧ Own w.heap.size 5 w' v' l ∧ Below w.heap.size w w' := by
  have HV : Hid (Rd w v l) := hv
  obtain ⟨hU, a, cap, rfl, h1, h2, h3, h4⟩ := hv
  cases a with
  | none =>
    have hc := h3 rfl
    subst hc
    have hl0 : l = [] := List.eq_nil_of_length_eq_zero (by omega)
    subst hl0
    have hq := eql_slice 25 5 (by kernel_rfl) w none 0 0
    go_enter Tryz.func71, Tryz.ntmps71
    go_wp2
    go_ret
    exact ⟨_, rfl, own_nil _ _ w, Below.refl _ _⟩
  | some ad =>
    have hq := eql_slice 25 5 (by kernel_rfl) w (some ad) l.length cap
    have HO : Hid (Own w.heap.size 5 (w.alloc (.cells #[] 5)) (.slice (some ⟨w.heap.size, 0, none⟩) 0 0) []) :=
      ⟨Oct.nil, rfl, .inr ⟨w.heap.size, 0, #[], rfl, Nat.le_refl _, heap_alloc_new w _, Nat.le_refl _, Nat.zero_le _, rfl, rfl⟩⟩
    have HB : Hid (Below w.heap.size w (w.alloc (.cells #[] 5))) := (show Below _ _ _ from balloc (Below.refl _ _) _)
    clear h4
    go_enter Tryz.func71, Tryz.ntmps71
    go_wp2_with (at_builtin; go_must (refine wpList_append_cells 25 5 byteTy rfl (.tmp 5) (.tmp 6) rfl w.heap.size _ [] rfl HO.out _ l rfl (HV.out.below HB.out) (by simp; omega) (by simp) ?_; intro v2 w2 hown2 hg2))
    go_ret
    exact ⟨_, rfl, by simpa using hown2, HO.out.below HB.out (Nat.le_refl _) hg2⟩
set_option maxHeartbeats 1000000 in
theorem eight59 (n : Int) (w : World) (hn : U64 n) :
    Calls Tryz.prog 61 #[.int .u64 n] w fun e w' => ∃ v', e = .returned v' ∧ Own w.heap.size 5 w' v' (be8 n) ∧ Below w.heap.size w w' := by
  unfold U64 at hn
  go_enter Tryz.func61, Tryz.ntmps61
  go_wp2
  go_loopw [0, 3, 4] (fun nv v i wr => ∃ k : Nat, k ≤ 8 ∧ i = .int .i64 k ∧ nv = .int .u64 (n / 256 ^ k) ∧ Hid (Own w.heap.size 5 wr v ((be8 n).drop (8 - k))) ∧ Hid (Below w.heap.size w wr)) (fun _ _ i _ => 8 - (intOf i).toNat)
  case atStart => exact ⟨0, by omega, rfl, by simp, own_nil _ _ _, Below.refl _ _⟩
  case round =>
    obtain ⟨k, hk, rfl, rfl, HO, HB⟩ := hrel
    by_cases h8 : k < 8
    · have hN0 : 0 ≤ n / 256 ^ k := Int.ediv_nonneg hn.1 (Int.pow_nonneg (by omega))
      have hN1 : n / 256 ^ k < 18446744073709551616 := Int.lt_of_le_of_lt (Int.ediv_le_self _ hn.1) hn.2
      have hstep := be8_step n k h8
      have hnext : n / 256 ^ k / 256 = n / 256 ^ (k + 1) := by rw [Int.ediv_ediv_of_nonneg (Int.pow_nonneg (by omega)), Int.pow_succ]
      have HST : Hid ((be8 n).drop (8 - (k + 1)) = (n / 256 ^ k % 256) :: (be8 n).drop (8 - k) ∧ n / 256 ^ k / 256 = n / 256 ^ (k + 1)) := ⟨hstep, hnext⟩
      clear hstep hnext
      generalize n / 256 ^ k = N at HST hN0 hN1 ⊢
      have hlen : ((be8 n).drop (8 - k)).length ≤ 8 := by simp [be8]
      generalize (be8 n).drop (8 - k) = l at HST HO hlen
      obtain ⟨va, vc, rfl⟩ := HO.out.rd.len
      have ht : N.tmod 256 = N % 256 := Int.tmod_eq_emod_of_nonneg hN0
      have hq : N.tdiv 256 = N / 256 := Int.tdiv_eq_ediv_of_nonneg hN0
      go_wp2_with (at_builtin; go_must (refine wpList_append_cells 25 5 bytes5 rfl _ _ rfl w.heap.size _ [N % 256] rfl (own_byte wr w.heap.size HB.out.size (N % 256) (by omega)) _ l rfl (HO.out.rd.below (balloc (Below.refl _ _) _)) (by simp; omega) (by have := HB.out.size; simp; omega) ?_; intro v' w' hown hg))
      obtain ⟨va2, vc2, rfl⟩ := hown.rd.len
      go_roundw
      case rel =>
        refine ⟨k + 1, by omega, by go_num, by rw [← HST.out.2], ?_, ?_⟩
        · rw [HST.out.1]
          exact hown
        · exact bgrown (b := wr.heap.size) (balloc HB.out _) HB.out.size hg
      case measure => simp [intOf]; omega
    · obtain rfl : k = 8 := by omega
      obtain ⟨va, vc, rfl⟩ := HO.out.rd.len
      go_wp2
      go_ret
      exact ⟨_, rfl, HO.out, HB.out⟩
theorem bound66 {N : Nat} {w : World} (hN : N < 18446744073709551616) : Calls Tryz.prog 96 #[.int .u64 (N : Int)] w fun e w' => ∃ v', e = .returned v' ∧ Own w.heap.size 5 w' v' (form N) ∧ Below w.heap.size w w' := by
  have H : Hid (Calls Tryz.prog 90 #[.slice none 0 0, .int .u64 (N : Int)] w fun e w' => ∃ v', e = .returned v' ∧ Own w.heap.size 5 w' v' (form N) ∧ Below w.heap.size w w') := by
    have := num_any (.slice none 0 0) [] N w (rd_nil w) (by simp) hN
    simp only [List.nil_append] at this
    exact this
  clear hN
  go_enter Tryz.func96, Tryz.ntmps96
  go_wp2_with (go_at_call 90; go_must (refine H.out.mono ?_; rintro e w1 ⟨v1, rfl, ho1, hb1⟩; obtain ⟨a1, c1, hx⟩ := ho1.rd.len; subst hx))
  go_ret
  exact ⟨_, rfl, ho1, hb1⟩
theorem bytesOf67 (h : Int) (w : World) (hh : U64 h) : Calls Tryz.prog 97 #[.int .u64 h] w fun e w' => ∃ v', e = .returned v' ∧ Own w.heap.size 5 w' v' (be8 h) ∧ Below w.heap.size w w' := by
  have HU : Hid (U64 h) := hh
  clear hh
  go_enter Tryz.func97, Tryz.ntmps97
  go_wp2_with (refine wpList_make_bytes 25 5 bytes5 rfl _ _ rfl .i64 .i64 _ _ 8 8 rfl rfl (by go_num) (by go_num) (Nat.le_refl _) (by omega) ?_)
  go_loopw [6] (fun v wr => ∃ k : Nat, k ≤ 8 ∧ v = .int .i64 k ∧ Hid (Blk wr w.heap.size 5 (cs8 (pre h 0 k))) ∧ Hid (Below w.heap.size w wr)) (fun v _ => 8 - (intOf v).toNat)
  case atStart => exact ⟨0, by omega, rfl, heap_alloc_new w _, (Below.refl _ _).alloc (Nat.le_refl _) _⟩
  case round =>
    obtain ⟨k, hk, rfl, hb, hbl⟩ := hrel
    by_cases h8 : k < 8
    · have hl := pre_length h 0 k
      have c0 := hb.out.cell (7 - k) _ (cs8_at (pre h 0 k) (7 - k) (by omega))
      have f0 := hb.out.frozen (7 - k)
      have e1 : (7 : Int) - (k : Int) = ((7 - k : Nat) : Int) := by omega
      go_wp2
      go_roundw
      case rel =>
        refine ⟨k + 1, by omega, by go_num, ?_, ?_⟩
        · have := hb.out.set (7 - k) (.int .u8 (h / 2 ^ (8 * k) % 256))
          rw [cs8_set] at this
          exact this
        · exact hbl.out.setCell (Nat.le_refl _) _
      case measure => simp [intOf]; omega
    · obtain rfl : k = 8 := by omega
      go_wp2
      go_ret
      refine ⟨_, rfl, ?_, hbl.out⟩
      have := hb.out
      rw [pre_8] at this
      have e2 : boxOf h 0 = be8 h := by simp [boxOf]
      rw [e2] at this
      exact own_blk this (be8_oct h) (by rw [be8_length]; unfold maxLen; omega)
theorem keyOf107 {v : Value} {l : List Int} {w : World} (hv : Rd w v l) (h8 : l.length = 8) : Calls Tryz.prog 131 #[v] w fun e w' => e = .returned (.int .u64 (ofBe8 l)) ∧ w' = w := by
  have hoct := hv.oct
  obtain ⟨_, a, cap, rfl, h1, h2, h3, h4⟩ := hv
  unfold maxLen at h2
  obtain ⟨bb, off, rfl, hc⟩ := h4 (by omega)
  have HC : Hid (∀ j, j < l.length → w.cell? ⟨bb, off + j, none⟩ = some (.int .u8 (l.getD j 0))) := hc
  have HO : Hid (Oct l) := hoct
  have H8 : Hid (l.length = 8) := h8
  have HE : Hid (ofBe8 l = upTo l 8) := (rfl : ofBe8 l = upTo l 8)
  rw [h8] at h1 ⊢
  rw [HE.out]
  clear h3 h4 hc hoct h8
  go_enter Tryz.func131, Tryz.ntmps131
  go_wp2
  go_loopw [3, 8] (fun hv iv wr => ∃ k : Nat, k ≤ 8 ∧ iv = .int .i64 k ∧ hv = .int .u64 (upTo l k) ∧ wr = w) (fun _ iv _ => 8 - (intOf iv).toNat)
  case atStart => exact ⟨0, by omega, rfl, rfl, rfl⟩
  case round =>
    obtain ⟨k, hk, rfl, rfl, rfl⟩ := hrel
    by_cases hk8 : k < 8
    · have hl8 := H8.out
      have c0 := HC.out k (by omega)
      have hx := HO.out.at k
      have hb := upTo_bound HO.out k (by omega)
      have hb2 : upTo l k < 72057594037927936 := by
        have : (256 : Int) ^ k ≤ 256 ^ 7 := by
          have : (256 : Nat) ^ k ≤ 256 ^ 7 := Nat.pow_le_pow_right (by omega) (by omega)
          have h3 := Int.ofNat_le.2 this
          rw [Int.natCast_pow, Int.natCast_pow] at h3
          exact h3
        have e : (256 : Int) ^ 7 = 72057594037927936 := by decide
        omega
      have hor : Hid _ := or8 (upTo l k) (l.getD k 0) hb.1 hb2 hx
      have HS : Hid (upTo l (k + 1) = upTo l k * 256 + l.getD k 0) := upTo_succ (by omega)
      clear hb hb2 hl8
      generalize l.getD k 0 = x at c0 hx hor HS
      go_wp2
      go_roundw
      case rel => exact ⟨k + 1, by omega, by go_num, by rw [HS.out, hor.out], trivial⟩
      case measure => simp [intOf]; omega
    · obtain rfl : k = 8 := by omega
      go_wp2
      go_ret
      exact ⟨rfl, rfl⟩
end
section
set_option linter.unusedVariables false
set_option linter.unusedSimpArgs false
set_option synthInstance.maxSize 20000
set_option maxHeartbeats 2000000
set_option maxRecDepth 20000
open Go.RowKit Go.Maps
def wv (q : Wq) : Value := .agg #[.int .i64 q.1.w, q.2]
def idxG {α : Type} (p : α → Bool) (l : List α) : Int := match l.findIdx? p with
  | some i => (i : Int)
  | none => -1
theorem idxG_hit {α : Type} {p : α → Bool} {l : List α} {k : Nat} {m : α} (hm : l[k]? = some m) (hp : p m = true) (hb : ∀ j x, j < k → l[j]? = some x → p x = false) : idxG p l = (k : Int) := by
  have hk := (List.getElem?_eq_some_iff.1 hm).1
  have e : l.findIdx? p = some k := by
    rw [List.findIdx?_eq_some_iff_getElem]
    refine ⟨hk, ?_, fun j hj => ?_⟩
    · have := (List.getElem?_eq_some_iff.1 hm).2
      rw [this]; exact hp
    · rw [hb j _ hj (List.getElem?_eq_getElem (by omega))]; simp
  unfold idxG
  rw [e]
theorem idxG_none {α : Type} {p : α → Bool} {l : List α} (h : ∀ (j : Nat) (x : α), l[j]? = some x → p x = false) : idxG p l = -1 := by
  have e : l.findIdx? p = none := by
    rw [List.findIdx?_eq_none_iff]
    intro x hx
    obtain ⟨j, hj⟩ := List.mem_iff_getElem?.1 hx
    exact h j x hj
  unfold idxG
  rw [e]
theorem idxG_any {α : Type} (p : α → Bool) (l : List α) : decide (0 ≤ idxG p l) = l.any p := by
  unfold idxG
  cases e : l.findIdx? p with
  | none =>
    rw [List.findIdx?_eq_none_iff] at e
    have : l.any p = false := by rw [List.any_eq_false]; intro x hx; rw [e x hx]; simp
    rw [this]; rfl
  | some i =>
    obtain ⟨h1, h2, _⟩ := List.findIdx?_eq_some_iff_getElem.1 e
    have : l.any p = true := List.any_eq_true.2 ⟨_, List.getElem_mem h1, h2⟩
    rw [this]; simp
theorem idx59 {w : World} {v : Value} {l : List Mb} (hv : RowF mc w v l) (p : Mb → Bool) (g : Nat) (cb : Array Value) (eg : ∀ args w, (callFunc g args).run Tryz.prog w = .ok (.enter g args) w)
    (hs : ∀ w' m, Below w.heap.size w w' → m ∈ l → Calls Tryz.prog g (#[mv m] ++ cb) w' fun r w'' => r = .returned (.bool (p m)) ∧ Below w'.heap.size w' w'') :
    Calls Tryz.prog 121 #[v, .func (.func g) #[] cb] w fun r w' => r = .returned (.int .i64 (idxG p l)) ∧ Below w.heap.size w w' := by
  obtain ⟨av, cap, rfl⟩ := hv.len
  have hcap := hv.caps
  have hc1 : l.length ≤ cap := hcap.2.1
  have hc2 : cap ≤ 9223372036854775807 := hcap.2.2
  have HV : Hid (RowF mc w (.slice av l.length cap) l) := hv
  have HS : Hid (∀ w' m, Below w.heap.size w w' → m ∈ l → Calls Tryz.prog g (#[mv m] ++ cb) w' fun r w'' => r = .returned (.bool (p m)) ∧ Below w'.heap.size w' w'') := hs
  obtain ⟨n, hn⟩ : ∃ n, n = l.length := ⟨_, rfl⟩
  have HN : Hid (n = l.length) := hn
  rw [← hn] at hc1 HV ⊢
  clear hv hs hcap hn
  go_enter Tryz.func121, Tryz.ntmps121
  go_wp2
  go_loopw [8] (fun i wr => ∃ k : Nat, i = .int .i64 k ∧ k ≤ n ∧ Hid (∀ j m, j < k → l[j]? = some m → p m = false) ∧ Hid (Below w.heap.size w wr)) (fun i _ => n - (intOf i).toNat)
  case atStart => exact ⟨0, rfl, by omega, (fun j m hj => by omega), (show Below _ _ _ from Below.refl _ _)⟩
  case round =>
    obtain ⟨k, rfl, hk, HI, HB⟩ := hrel
    by_cases hki : k < n
    · obtain ⟨m, hm⟩ : ∃ m, l[k]? = some m := ⟨_, List.getElem?_eq_getElem (by have := HN.out; omega)⟩
      have HM : Hid (l[k]? = some m) := hm
      obtain ⟨b, off, ea, hc⟩ := (HV.out.below HB.out).at mc_len hm
      subst ea
      have CL := HS.out wr m HB.out (List.mem_of_getElem? hm)
      have c0 := hc 0 _ rfl; have c1 := hc 1 _ rfl; have c2 := hc 2 _ rfl; have c3 := hc 3 _ rfl; have c4 := hc 4 _ rfl
      simp only [Nat.add_zero] at c0
      clear hc hm
      unfold mv at CL
      cases hp : p m
      · rw [hp] at CL
        have HP : Hid (p m = false) := hp
        clear hp
        go_wp2_with (go_at_fn g; go_must (refine CL.mono ?_; rintro r w2 ⟨rfl, hb2⟩))
        go_roundw
        case rel =>
          refine ⟨k + 1, by go_num, by omega, (fun j x hj hx => ?_), (show Below _ _ _ from bnext HB.out hb2)⟩
          by_cases hjk : j = k
          · subst hjk
            rw [HM.out] at hx
            cases hx
            exact HP.out
          · exact HI.out j x (by omega) hx
        case measure => simp [intOf]; omega
      · rw [hp] at CL
        have HP : Hid (p m = true) := hp
        clear hp
        go_wp2_with (go_at_fn g; go_must (refine CL.mono ?_; rintro r w2 ⟨rfl, hb2⟩))
        go_ret
        exact ⟨by rw [idxG_hit HM.out HP.out HI.out]; rfl, bnext HB.out hb2⟩
    · go_wp2
      go_ret
      refine ⟨?_, HB.out⟩
      rw [idxG_none (fun j x hx => HI.out j x (by have := (List.getElem?_eq_some_iff.1 hx).1; have := HN.out; omega) hx)]
      rfl
theorem idx83 {w : World} {v : Value} {l : List Wq} (hv : RowF wq w v l) (p : Wq → Bool) (g : Nat) (cb : Array Value) (eg : ∀ args w, (callFunc g args).run Tryz.prog w = .ok (.enter g args) w)
    (hs : ∀ w' m, Below w.heap.size w w' → m ∈ l → Calls Tryz.prog g (#[wv m] ++ cb) w' fun r w'' => r = .returned (.bool (p m)) ∧ Below w'.heap.size w' w'') :
    Calls Tryz.prog 109 #[v, .func (.func g) #[] cb] w fun r w' => r = .returned (.int .i64 (idxG p l)) ∧ Below w.heap.size w w' := by
  obtain ⟨av, cap, rfl⟩ := hv.len
  have hcap := hv.caps
  have hc1 : l.length ≤ cap := hcap.2.1
  have hc2 : cap ≤ 9223372036854775807 := hcap.2.2
  have HV : Hid (RowF wq w (.slice av l.length cap) l) := hv
  have HS : Hid (∀ w' m, Below w.heap.size w w' → m ∈ l → Calls Tryz.prog g (#[wv m] ++ cb) w' fun r w'' => r = .returned (.bool (p m)) ∧ Below w'.heap.size w' w'') := hs
  obtain ⟨n, hn⟩ : ∃ n, n = l.length := ⟨_, rfl⟩
  have HN : Hid (n = l.length) := hn
  rw [← hn] at hc1 HV ⊢
  clear hv hs hcap hn
  go_enter Tryz.func109, Tryz.ntmps109
  go_wp2
  go_loopw [8] (fun i wr => ∃ k : Nat, i = .int .i64 k ∧ k ≤ n ∧ Hid (∀ j m, j < k → l[j]? = some m → p m = false) ∧ Hid (Below w.heap.size w wr)) (fun i _ => n - (intOf i).toNat)
  case atStart => exact ⟨0, rfl, by omega, (fun j m hj => by omega), (show Below _ _ _ from Below.refl _ _)⟩
  case round =>
    obtain ⟨k, rfl, hk, HI, HB⟩ := hrel
    by_cases hki : k < n
    · obtain ⟨m, hm⟩ : ∃ m, l[k]? = some m := ⟨_, List.getElem?_eq_getElem (by have := HN.out; omega)⟩
      have HM : Hid (l[k]? = some m) := hm
      obtain ⟨b, off, ea, hc⟩ := (HV.out.below HB.out).at wq_len hm
      subst ea
      have CL := HS.out wr m HB.out (List.mem_of_getElem? hm)
      have c0 := hc 0 _ rfl; have c1 := hc 1 _ rfl
      simp only [Nat.add_zero] at c0
      clear hc hm
      unfold wv at CL
      cases hp : p m
      · rw [hp] at CL
        have HP : Hid (p m = false) := hp
        clear hp
        go_wp2_with (go_at_fn g; go_must (refine CL.mono ?_; rintro r w2 ⟨rfl, hb2⟩))
        go_roundw
        case rel =>
          refine ⟨k + 1, by go_num, by omega, (fun j x hj hx => ?_), (show Below _ _ _ from bnext HB.out hb2)⟩
          by_cases hjk : j = k
          · subst hjk
            rw [HM.out] at hx
            cases hx
            exact HP.out
          · exact HI.out j x (by omega) hx
        case measure => simp [intOf]; omega
      · rw [hp] at CL
        have HP : Hid (p m = true) := hp
        clear hp
        go_wp2_with (go_at_fn g; go_must (refine CL.mono ?_; rintro r w2 ⟨rfl, hb2⟩))
        go_ret
        exact ⟨by rw [idxG_hit HM.out HP.out HI.out]; rfl, bnext HB.out hb2⟩
    · go_wp2
      go_ret
      refine ⟨?_, HB.out⟩
      rw [idxG_none (fun j x hx => HI.out j x (by have := (List.getElem?_eq_some_iff.1 hx).1; have := HN.out; omega) hx)]
      rfl
theorem any75 {w : World} {v : Value} {l : List Mb} (hv : RowF mc w v l) (p : Mb → Bool) (g : Nat) (cb : Array Value) (eg : ∀ args w, (callFunc g args).run Tryz.prog w = .ok (.enter g args) w)
    (hs : ∀ w' m, Below w.heap.size w w' → m ∈ l → Calls Tryz.prog g (#[mv m] ++ cb) w' fun r w'' => r = .returned (.bool (p m)) ∧ Below w'.heap.size w' w'') :
    Calls Tryz.prog 130 #[v, .func (.func g) #[] cb] w fun r w' => r = .returned (.bool (l.any p)) ∧ Below w.heap.size w w' := by
  have HC : Hid (Calls Tryz.prog 121 #[v, .func (.func g) #[] cb] w fun r w' => r = .returned (.int .i64 (idxG p l)) ∧ Below w.heap.size w w') := idx59 hv p g cb eg hs
  obtain ⟨av, cap, rfl⟩ := hv.len
  have HA : Hid (decide (0 ≤ idxG p l) = l.any p) := idxG_any p l
  generalize idxG p l = x at *
  clear hv hs
  go_enter Tryz.func130, Tryz.ntmps130
  go_wp2_with (go_at_call 121; go_must (refine HC.out.mono ?_; rintro r w2 ⟨rfl, hb2⟩))
  go_ret
  exact ⟨by rw [← HA.out]; rfl, hb2⟩
theorem any73 {w : World} {v : Value} {l : List Wq} (hv : RowF wq w v l) (p : Wq → Bool) (g : Nat) (cb : Array Value) (eg : ∀ args w, (callFunc g args).run Tryz.prog w = .ok (.enter g args) w)
    (hs : ∀ w' m, Below w.heap.size w w' → m ∈ l → Calls Tryz.prog g (#[wv m] ++ cb) w' fun r w'' => r = .returned (.bool (p m)) ∧ Below w'.heap.size w' w'') :
    Calls Tryz.prog 128 #[v, .func (.func g) #[] cb] w fun r w' => r = .returned (.bool (l.any p)) ∧ Below w.heap.size w w' := by
  have HC : Hid (Calls Tryz.prog 109 #[v, .func (.func g) #[] cb] w fun r w' => r = .returned (.int .i64 (idxG p l)) ∧ Below w.heap.size w w') := idx83 hv p g cb eg hs
  obtain ⟨av, cap, rfl⟩ := hv.len
  have HA : Hid (decide (0 ≤ idxG p l) = l.any p) := idxG_any p l
  generalize idxG p l = x at *
  clear hv hs
  go_enter Tryz.func128, Tryz.ntmps128
  go_wp2_with (go_at_call 109; go_must (refine HC.out.mono ?_; rintro r w2 ⟨rfl, hb2⟩))
  go_ret
  exact ⟨by rw [← HA.out]; rfl, hb2⟩
end
section
set_option linter.unusedVariables false
set_option linter.unusedSimpArgs false
set_option synthInstance.maxSize 20000
set_option maxHeartbeats 2000000
set_option maxRecDepth 20000
open Go.RowKit Go.Maps
theorem blkM_0 (w : World) (c d : List Value) (e1 e2 : TypeId) : Blk ((w.alloc (.cells c.toArray e1)).alloc (.cells d.toArray e2)) w.heap.size e1 c := (blk_new w c e1).alloc _
theorem blkM_1 (w : World) (c d : List Value) (e1 e2 : TypeId) : Blk ((w.alloc (.cells c.toArray e1)).alloc (.cells d.toArray e2)) (w.heap.size + 1) e2 d := by
  have := heap_alloc_new (w.alloc (.cells c.toArray e1)) (.cells d.toArray e2)
  simpa [Blk] using this
theorem balloc2 (w : World) (o1 o2 : Obj) : Below w.heap.size w ((w.alloc o1).alloc o2) := balloc (balloc (Below.refl _ _) _) _
theorem results_cell1 {fn : Func} {p : Tmp} {ty : TypeId} (h : fn.results = #[.cell p ty]) (tmps : Array Value) (P : Program) (w : World) : (results fn tmps).run P w = ((asAddr (tmps.getD p undef)).run P w).andThen fun a w₁ => (loadVar ty a).run P w₁ := by
  simp only [results, h]
  simp [Sem.run_bind, Result.andThen]
theorem revoked39 (m : Mb) (w : World) : Calls Tryz.prog 95 #[mv m] w fun r w' => r = .returned (.bool (!on m)) ∧ Below w.heap.size w w' := by
  obtain ⟨a, b, c, d, e⟩ := m
  unfold mv on
  dsimp only
  have H : Hid (∀ x : Int, (x != -1) = !decide (x = -1)) := fun x => by by_cases h : x = -1 <;> simp [h]
  go_enter Tryz.func95, Tryz.ntmps95
  go_wp2
  go_ret
  refine ⟨?_, balloc (Below.refl _ _) _⟩
  rw [← H.out]
  rfl
theorem place60 (m : Mb) (who : Int) (w : World) (b : Nat) (hb : Blk w b 3 [.int .i64 who]) : Calls Tryz.prog 122 #[mv m, ptr b] w fun r w' => r = .returned (.bool (atW who m)) ∧ Below w.heap.size w w' := by
  obtain ⟨x0, x1, x2, x3, x4⟩ := m
  unfold mv atW
  dsimp only
  have k0 := (hb.alloc (.cells #[.int .i64 x0, .int .u64 x1, .int .i64 x2, .int .i64 x3, .int .i64 x4] 116)).cell 0 _ rfl
  clear hb
  go_enter Tryz.func122, Tryz.ntmps122
  go_wp2
  go_ret
  refine ⟨?_, balloc (Below.refl _ _) _⟩
  first | rfl | exact ret_bool (by simp)
def overW (who : Int) (m : Mb) : Bool := decide (who < m.w)
theorem room70 (m : Mb) (who : Int) (w : World) (b : Nat) (hb : Blk w b 3 [.int .i64 who]) : Calls Tryz.prog 125 #[mv m, ptr b] w fun r w' => r = .returned (.bool (overW who m)) ∧ Below w.heap.size w w' := by
  obtain ⟨x0, x1, x2, x3, x4⟩ := m
  unfold mv overW
  dsimp only
  have k0 := (hb.alloc (.cells #[.int .i64 x0, .int .u64 x1, .int .i64 x2, .int .i64 x3, .int .i64 x4] 116)).cell 0 _ rfl
  clear hb
  go_enter Tryz.func125, Tryz.ntmps125
  go_wp2
  go_ret
  refine ⟨?_, balloc (Below.refl _ _) _⟩
  first | rfl | exact ret_bool (by simp)
theorem enter60 : ∀ args w, (callFunc 122 args).run Tryz.prog w = .ok (.enter 122 args) w := Go.Proofs.enters_of Tryz.func122 (by kernel_rfl) rfl
theorem enter70 : ∀ args w, (callFunc 125 args).run Tryz.prog w = .ok (.enter 125 args) w := Go.Proofs.enters_of Tryz.func125 (by kernel_rfl) rfl
theorem place38 {w : World} {v : Value} {l : List Mb} (hv : RowF mc w v l) (who : Int) : Calls Tryz.prog 103 #[v, .int .i64 who] w fun r w' => r = .returned (.int .i64 (idxG (atW who) l)) ∧ Below w.heap.size w w' := by
  have HC : Hid (Calls Tryz.prog 121 #[v, .func (.func 122) #[] #[ptr w.heap.size]] (w.alloc (.cells #[.int .i64 who] 3)) fun r w' => r = .returned (.int .i64 (idxG (atW who) l)) ∧ Below w.heap.size w w') := by
    refine (idx59 (hv.below (balloc (Below.refl _ _) _)) (atW who) 122 #[ptr w.heap.size] enter60 (fun w' m hb hm => ?_)).mono ?_
    · exact place60 m who w' w.heap.size ((blk_new w [.int .i64 who] 3).below hb)
    · rintro r w' ⟨rfl, hb⟩
      exact ⟨rfl, bnext (balloc (Below.refl _ _) _) hb⟩
  obtain ⟨av, cap, rfl⟩ := hv.len
  generalize idxG (atW who) l = x at *
  clear hv
  go_enter Tryz.func103, Tryz.ntmps103
  go_wp2_with (go_at_call 121; go_must (refine HC.out.mono ?_; rintro r w2 ⟨rfl, hb2⟩))
  go_ret
  exact ⟨rfl, hb2⟩
theorem idxG_find {l : List Mb} {p : Mb → Bool} : (l.find? p = none ∧ idxG p l = -1) ∨ ∃ (i : Nat) (m : Mb), l.find? p = some m ∧ idxG p l = (i : Int) ∧ l[i]? = some m ∧ p m = true ∧ ∀ (j : Nat) (x : Mb), j < i → l[j]? = some x → p x = false := by
  cases e : l.findIdx? p with
  | none =>
    left
    refine ⟨?_, by unfold idxG; rw [e]⟩
    rw [List.findIdx?_eq_none_iff] at e
    rw [List.find?_eq_none]
    intro x hx
    rw [e x hx]
    simp
  | some i =>
    right
    obtain ⟨h1, h2, h3⟩ := List.findIdx?_eq_some_iff_getElem.1 e
    refine ⟨i, l[i], ?_, by unfold idxG; rw [e], List.getElem?_eq_getElem h1, h2, fun j x hj hx => ?_⟩
    · rw [List.find?_eq_some_iff_getElem]
      exact ⟨h2, i, h1, rfl, fun j hj => by simpa using h3 j hj⟩
    · have := h3 j hj
      have hx2 := (List.getElem?_eq_some_iff.1 hx).2
      rw [← hx2]
      simpa using this
end
section
set_option linter.unusedVariables false
set_option linter.unusedSimpArgs false
set_option synthInstance.maxSize 20000
set_option maxHeartbeats 2000000
set_option maxRecDepth 20000
open Go.RowKit Go.Maps
theorem nowM_snoc {l : List Mb} {k : Nat} {m : Mb} (h : l[k]? = some m) : nowM (l.take (k + 1)) = nowM (l.take k) ++ (if on m = true then [m] else []) := by
  have hk := (List.getElem?_eq_some_iff.1 h)
  unfold nowM
  rw [List.take_succ_eq_append_getElem hk.1, List.filter_append, hk.2]
  congr 1
  by_cases ho : on m = true <;> simp [ho]
theorem nowM_le (l : List Mb) (k : Nat) : (nowM (l.take k)).length ≤ l.length := by
  unfold nowM
  refine Nat.le_trans (List.length_filter_le _ _) ?_
  rw [List.length_take]
  omega
theorem own_below {w w' : World} {B : Nat} {e : TypeId} {k : Nat} {v : Value} {n : Nat} {xs : List Value} (h : w.ownsRow B e k v n xs) (hb : Below w.heap.size w w') : w'.ownsRow B e k v n xs := ownsRow_block h (fun j hj => hb.block j (h.lt j hj).2)
theorem now19 {w : World} {v : Value} {l : List Mb} (hv : RowF mc w v l) (hl : l.length ≤ 10000) (e : Int) : Calls Tryz.prog 55 #[stv v e] w fun r w' => ∃ v', r = .returned v' ∧ RowF mc w' v' (nowM l) ∧ Below w.heap.size w w' := by
  obtain ⟨av, cap, rfl⟩ := hv.len
  have hcap := hv.caps
  have hc1 : l.length ≤ cap := hcap.2.1
  have hc2 : cap ≤ 9223372036854775807 := hcap.2.2
  have HV : Hid (∀ w', Below w.heap.size w w' → RowF mc w' (.slice av l.length cap) l) := fun w' hb => hv.below hb
  obtain ⟨n, hn⟩ : ∃ n, n = l.length := ⟨_, rfl⟩
  have HN : Hid (n = l.length) := hn
  rw [← hn] at hc1 HV hl ⊢
  clear hv hcap hn
  unfold stv
  go_enter Tryz.func55, Tryz.ntmps55
  go_wp2
  go_loopw [3, 9] (fun vo i wr => ∃ (k : Nat), i = .int .i64 k ∧ k ≤ n ∧ Hid (Below w.heap.size w wr) ∧ Hid (wr.ownsRow 0 116 5 vo (nowM (l.take k)).length (flat mc (nowM (l.take k)))) ∧ Hid (∀ j, vo.ownBlock = some j → w.heap.size ≤ j)) (fun _ i _ => n - (intOf i).toNat)
  case atStart => exact ⟨0, rfl, by omega, (show Below _ _ _ from balloc (Below.refl _ _) _), World.ownsRow_nil _ _ _ _, (fun j hj => by cases hj)⟩
  case round =>
    obtain ⟨k, rfl, hk, HB, HO, HNw⟩ := hrel
    by_cases hki : k < n
    · obtain ⟨m, hm⟩ : ∃ m, l[k]? = some m := ⟨_, List.getElem?_eq_getElem (by have := HN.out; omega)⟩
      have HM : Hid (nowM (l.take (k + 1)) = nowM (l.take k) ++ (if on m = true then [m] else [])) := nowM_snoc hm
      have HL : Hid ((nowM (l.take k)).length ≤ n) := (by have := nowM_le l k; rw [← HN.out] at this; exact this)
      obtain ⟨b, off, ea, hc⟩ := (HV.out wr HB.out).at mc_len hm
      subst ea
      have HR : Hid (∀ w', Calls Tryz.prog 95 #[mv m] w' fun r w'' => r = .returned (.bool (!on m)) ∧ Below w'.heap.size w' w'') := fun w' => revoked39 m w'
      obtain ⟨av2, cp2, hvo, hcp⟩ := slice_of_own HO.out
      subst hvo
      have HBk : Hid (∀ w', Below (wr.heap.size + 1) (wr.alloc (.cells (mc m).toArray 116)) w' → Blk w' wr.heap.size 116 (mc m) ∧ Below w.heap.size w w' ∧ w'.ownsRow 0 116 5 (.slice av2 (nowM (l.take k)).length cp2) (nowM (l.take k)).length (flat mc (nowM (l.take k)))) := fun w' hb =>
        have hb' : Below (wr.alloc (.cells (mc m).toArray 116)).heap.size (wr.alloc (.cells (mc m).toArray 116)) w' := by simpa using hb
        have hb2 : Below wr.heap.size wr w' := bnext (balloc (Below.refl _ _) _) hb'
        ⟨(blk_new wr (mc m) 116).below hb', bnext HB.out hb2, own_below HO.out hb2⟩
      have HRow : Hid (∀ w' : World, RowF mc (w'.alloc (.cells (mc m).toArray 116)) (.slice (some ⟨w'.heap.size, 0, none⟩) 1 1) [m]) := fun w' => rowF_one w' m 116
      obtain ⟨x0, x1, x2, x3, x4⟩ := m
      have c0 := hc 0 _ rfl; have c1 := hc 1 _ rfl; have c2 := hc 2 _ rfl; have c3 := hc 3 _ rfl; have c4 := hc 4 _ rfl
      simp only [Nat.add_zero] at c0
      unfold mv at HR
      have HBk : Hid (∀ w', Below (wr.heap.size + 1) (wr.alloc (.cells #[.int .i64 x0, .int .u64 x1, .int .i64 x2, .int .i64 x3, .int .i64 x4] 116)) w' → Blk w' wr.heap.size 116 [.int .i64 x0, .int .u64 x1, .int .i64 x2, .int .i64 x3, .int .i64 x4] ∧ Below w.heap.size w w' ∧ w'.ownsRow 0 116 5 (.slice av2 (nowM (l.take k)).length cp2) (nowM (l.take k)).length (flat mc (nowM (l.take k)))) := HBk
      have HRow : Hid (∀ w' : World, RowF mc (w'.alloc (.cells #[.int .i64 x0, .int .u64 x1, .int .i64 x2, .int .i64 x3, .int .i64 x4] 116)) (.slice (some ⟨w'.heap.size, 0, none⟩) 1 1) [(⟨x0, x1, x2, x3, x4⟩ : Mb)]) := HRow
      dsimp only at HR
      have HNK : Hid (((nowM (l.take k)) ++ [(⟨x0, x1, x2, x3, x4⟩ : Mb)]).length ≤ 100000) := (show _ ≤ _ by rw [List.length_append]; have := HL.out; simp; omega)
      generalize hnn : nowM (l.take k) = acc at *
      generalize on ⟨x0, x1, x2, x3, x4⟩ = ob at *
      clear hc hm hnn
      cases ob
      · have HM2 : Hid (nowM (l.take (k + 1)) = acc) := by have := HM.out; simp at this; exact this
        clear HM
        go_wp2_with (go_at_call 95; go_must (refine (HR.out _).mono ?_; rintro r w2 ⟨rfl, hb2⟩; simp only [World.size_alloc] at hb2; obtain ⟨X, HB2, HO2⟩ := HBk.out w2 hb2; have j0 := X.cell 0 _ rfl; have j1 := X.cell 1 _ rfl; have j2 := X.cell 2 _ rfl; have j3 := X.cell 3 _ rfl; have j4 := X.cell 4 _ rfl; clear X))
        go_roundw
        case rel =>
          refine ⟨k + 1, by go_num, by omega, HB2, ?_, HNw⟩
          rw [HM2.out]
          exact HO2
        case measure => simp [intOf]; omega
      · have HM2 : Hid (nowM (l.take (k + 1)) = acc ++ [(⟨x0, x1, x2, x3, x4⟩ : Mb)]) := by have := HM.out; simp only [if_true] at this; exact this
        clear HM
        go_wp2_with (first
          | (go_at_call 95; go_must (refine (HR.out _).mono ?_; rintro r w2 ⟨rfl, hb2⟩; simp only [World.size_alloc] at hb2; obtain ⟨X, HB2, HO2⟩ := HBk.out w2 hb2; have j0 := X.cell 0 _ rfl; have j1 := X.cell 1 _ rfl; have j2 := X.cell 2 _ rfl; have j3 := X.cell 3 _ rfl; have j4 := X.cell 4 _ rfl; clear X))
          | (at_builtin; go_must (refine wpList_append_rows ty26 mc_len (by omega) rfl (.tmp 16) (.tmp 18) rfl _ acc rfl (HO2.alloc _) _ [(⟨x0, x1, x2, x3, x4⟩ : Mb)] rfl (HRow.out w2) (flat_mc_one _) (by have := HNK.out; rw [List.length_append] at this; omega) ?_; intro v3 w3 hr3 hg3 hn3; obtain ⟨a3, q3, hv3, hq3⟩ := slice_of_own hr3; subst hv3)))
        go_roundw
        case rel =>
          refine ⟨k + 1, by go_num, by omega, ?_, ?_, ?_⟩
          · exact (balloc HB2 _).grown hg3 (balloc HB2 _).size (fun j hj => HNw.out j hj)
          · rw [HM2.out]
            rw [List.length_append] at hr3 ⊢
            exact hr3
          · intro j hj
            rw [List.length_append] at hn3
            rcases hn3 j hj with r | r
            · exact HNw.out j r
            · have := (balloc HB2 (.cells #[.int .i64 x0, .int .u64 x1, .int .i64 x2, .int .i64 x3, .int .i64 x4] 116)).size
              omega
        case measure => simp [intOf]; omega
    · go_wp2
      go_ret
      have e : l.take k = l := List.take_of_length_le (by have := HN.out; omega)
      have := HO.out
      rw [e] at this
      exact ⟨_, rfl, rowF_own mc_len this, HB.out⟩
end
section
set_option linter.unusedVariables false
set_option linter.unusedSimpArgs false
set_option synthInstance.maxSize 20000
set_option maxHeartbeats 2000000
set_option maxRecDepth 20000
open Go.RowKit Go.Maps
theorem within48 (n a b : Int) (w : World) : Calls Tryz.prog 100 #[.int .i64 n, .int .i64 a, .int .i64 b] w fun r w' => r = .returned (.bool (decide (a ≤ n ∧ n ≤ b))) ∧ w' = w := by
  have H : Hid (decide (a ≤ n ∧ n ≤ b) = true ↔ a ≤ n ∧ n ≤ b) := (decide_eq_true_iff : _ ↔ _)
  generalize decide (a ≤ n ∧ n ≤ b) = x at *
  by_cases h : a ≤ n
  all_goals
    go_enter Tryz.func100, Tryz.ntmps100
    go_wp2
    go_ret
    refine ⟨ret_bool ?_, rfl⟩
    rw [H.out]
    simp
    try omega
theorem who46 (n : Int) (w : World) : Calls Tryz.prog 98 #[.int .i64 n] w fun r w' => r = .returned (.bool (whoB n)) ∧ w' = w := by
  have H : Hid (Calls Tryz.prog 100 #[.int .i64 n, .int .i64 0, .int .i64 7] w fun r w' => r = .returned (.bool (whoB n)) ∧ w' = w) := within48 n 0 7 w
  generalize whoB n = x at *
  go_enter Tryz.func98, Tryz.ntmps98
  go_wp2_with (go_at_call 100; go_must (refine H.out.mono ?_; rintro r w2 ⟨rfl, rfl⟩))
  go_ret
  exact ⟨rfl, rfl⟩
theorem old50 {w : World} {v : Value} {o : List Int} (h : Rd w v o) : Calls Tryz.prog 102 #[v] w fun r w' => r = .returned (.bool (oldB o)) ∧ w' = w := by
  obtain ⟨a, c, rfl⟩ := h.len
  have H : Hid (oldB o = true ↔ o.length = 0 ∨ o.length = 24) := (by unfold oldB; exact decide_eq_true_iff)
  generalize oldB o = x at *
  generalize o.length = n at *
  clear h
  by_cases h0 : n = 0
  · subst h0
    go_enter Tryz.func102, Tryz.ntmps102
    go_wp2
    go_ret
    exact ⟨ret_bool (by rw [H.out]; simp), rfl⟩
  · have h1 : ((n : Int) == 0) = false := by simpa using h0
    have HN : Hid (¬ n = 0) := h0
    clear h0
    go_enter Tryz.func102, Tryz.ntmps102
    go_wp2
    go_ret
    refine ⟨ret_bool ?_, rfl⟩
    have := HN.out
    rw [H.out]
    simp
    omega
theorem key47 {w : World} {c : Cg} {a b : Value} {qs : List Wq} (h : CgAt w c a b qs) : Calls Tryz.prog 99 #[cv c a b] w fun r w' => r = .returned (.bool (keyB c)) ∧ Below w.heap.size w w' := by
  have H : Hid (keyB c = true ↔ qs.length = 0 ∧ c.o.length = 0) := (by unfold keyB; rw [h.len]; exact decide_eq_true_iff)
  obtain ⟨aa, ca, rfl⟩ := h.row.len
  obtain ⟨ab, cb, rfl⟩ := h.old.len
  generalize keyB c = x at *
  generalize c.o.length = n at *
  generalize qs.length = m at *
  obtain ⟨c0, c1, c2, c3, c4, c5⟩ := c
  unfold cv
  dsimp only at *
  clear h
  by_cases h0 : m = 0
  · subst h0
    go_enter Tryz.func99, Tryz.ntmps99
    go_wp2
    go_ret
    refine ⟨ret_bool ?_, balloc (Below.refl _ _) _⟩
    rw [H.out]
    simp
  · have h1 : ((m : Int) == 0) = false := by simpa using h0
    have HN : Hid (¬ m = 0) := h0
    clear h0
    go_enter Tryz.func99, Tryz.ntmps99
    go_wp2
    go_ret
    refine ⟨ret_bool ?_, balloc (Below.refl _ _) _⟩
    have := HN.out
    rw [H.out]
    simp
    omega
end
section
set_option linter.unusedVariables false
set_option linter.unusedSimpArgs false
set_option synthInstance.maxSize 20000
set_option maxHeartbeats 2000000
set_option maxRecDepth 20000
open Go.RowKit Go.Maps
theorem ws49 {w : World} {v : Value} {qs : List Wq} (hv : RowF wq w v qs) (hr : ∀ q ∈ qs, Rd w q.2 q.1.b) : Calls Tryz.prog 101 #[v] w fun r w' => r = .returned (.bool (wsB (qs.map (·.1)))) ∧ Below w.heap.size w w' := by
  obtain ⟨av, cap, rfl⟩ := hv.len
  have hcap := hv.caps
  have hc1 : qs.length ≤ cap := hcap.2.1
  have hc2 : cap ≤ 9223372036854775807 := hcap.2.2
  have HV : Hid (∀ w', Below w.heap.size w w' → RowF wq w' (.slice av qs.length cap) qs) := fun w' hb => hv.below hb
  have HR : Hid (∀ q ∈ qs, Rd w q.2 q.1.b) := hr
  obtain ⟨n, hn⟩ : ∃ n, n = qs.length := ⟨_, rfl⟩
  have HN : Hid (n = qs.length) := hn
  have HWB : Hid (wsB (qs.map (·.1)) = (wsF none (qs.map (·.1)) && decide (0 < n))) := (show _ = _ by unfold wsB; rw [List.length_map, hn])
  have HTK : Hid (n ≤ 0 → wsB (qs.map (·.1)) = false) := fun h => by rw [HWB.out, decide_eq_false (by omega), Bool.and_false]
  rw [← hn] at hc1 HV ⊢
  clear hv hcap hn hr
  go_enter Tryz.func101, Tryz.ntmps101
  go_wp2
  go_loopw [7] (fun i wr => ∃ k : Nat, i = .int .i64 k ∧ k ≤ n ∧ Hid (wsF none ((qs.map (·.1)).take k) = true) ∧ Hid (Below w.heap.size w wr)) (fun i _ => n - (intOf i).toNat)
  case atStart => exact ⟨0, rfl, by omega, (rfl : wsF none ((qs.map (·.1)).take 0) = true), (show Below _ _ _ from Below.refl _ _)⟩
  case round =>
    obtain ⟨k, rfl, hk, HI, HB⟩ := hrel
    by_cases hki : k < n
    · obtain ⟨q, hq⟩ : ∃ q, qs[k]? = some q := ⟨_, List.getElem?_eq_getElem (by have := HN.out; omega)⟩
      have hq1 : (qs.map (·.1))[k]? = some q.1 := by rw [List.getElem?_map, hq]; rfl
      obtain ⟨b, off, ea, hc⟩ := (HV.out wr HB.out).at wq_len hq
      subst ea
      have hlq := (HR.out q (List.mem_of_getElem? hq)).len
      have HST : Hid (stepB (prevW (qs.map (·.1)) k) q.1 = false → wsB (qs.map (·.1)) = false) := fun h => by rw [HWB.out, wsF_stop hq1 h, Bool.false_and]
      have HGO : Hid (stepB (prevW (qs.map (·.1)) k) q.1 = true → wsF none ((qs.map (·.1)).take (k + 1)) = true) := fun h => by rw [wsF_snoc hq1, HI.out, h]; rfl
      have hpv : (k = 0 ∧ prevW (qs.map (·.1)) k = none) ∨ ∃ (j : Nat) (y : Wq), k = j + 1 ∧ prevW (qs.map (·.1)) k = some y.1.w ∧ qs[j]? = some y := by
        cases k with
        | zero => exact .inl ⟨rfl, rfl⟩
        | succ j =>
          obtain ⟨y, hy⟩ : ∃ y, qs[j]? = some y := ⟨_, List.getElem?_eq_getElem (by have := HN.out; omega)⟩
          exact .inr ⟨j, y, rfl, prevW_succ (by rw [List.getElem?_map, hy]; rfl), hy⟩
      generalize prevW (qs.map (·.1)) k = pv at *
      obtain ⟨⟨x, bs⟩, bv⟩ := q
      dsimp only at hlq
      obtain ⟨ab, cb, rfl⟩ := hlq
      have c0 := hc 0 _ rfl
      have c1 := hc 1 _ rfl
      simp only [Nat.add_zero] at c0
      dsimp only at *
      obtain ⟨bn, hbn⟩ : ∃ bn, bn = bs.length := ⟨_, rfl⟩
      have HBN : Hid (bn = bs.length) := hbn
      rw [← hbn] at c1
      obtain ⟨w1, hw1⟩ : ∃ w1, w1 = wr.alloc (.cells #[.int .i64 x, .slice ab bn cb] 158) := ⟨_, rfl⟩
      have HW1 : Hid (w1 = wr.alloc (.cells #[.int .i64 x, .slice ab bn cb] 158)) := hw1
      have hb1 : Below wr.heap.size wr w1 := by rw [hw1]; exact balloc (Below.refl _ _) _
      have HB1 : Hid (Below w.heap.size w w1.drew) := (show Below _ _ _ from (bnext HB.out hb1).drew)
      have HD : Hid (Below w1.heap.size w1 w1.drew) := (show Below _ _ _ from (Below.refl _ _).drew)
      have X1 : Blk w1 wr.heap.size 158 [.int .i64 x, .slice ab bn cb] := by rw [hw1]; exact blk_new wr _ 158
      have H46 : Hid (∀ w', Calls Tryz.prog 98 #[.int .i64 x] w' fun r w'' => r = .returned (.bool (whoB x)) ∧ w'' = w') := fun w' => who46 x w'
      have z0 := fun z : WIn (fun w' => Below w1.heap.size w1 w') => (X1.below z.ok).cell 0 _ rfl
      have z1 := fun z : WIn (fun w' => Below w1.heap.size w1 w') => (X1.below z.ok).cell 1 _ rfl
      have HY : Hid (∀ (j : Nat) (y : Wq), k = j + 1 → qs[j]? = some y → ∀ z : WIn (fun w' => Below w1.heap.size w1 w'), z.w.cell? ⟨b, off + j * 2, none⟩ = some (.int .i64 y.1.w)) := fun j y hj hy z => by
        have hb := bnext (bnext HB.out hb1) z.ok
        obtain ⟨b', off', e', hc'⟩ := (HV.out z.w hb).at wq_len hy
        cases e'
        have := hc' 0 _ rfl
        rwa [Nat.add_zero] at this
      have ne : Nonempty (WIn (fun w' => Below w1.heap.size w1 w')) := ⟨⟨w1, Below.refl _ _⟩⟩
      clear hc hq hq1 hw1 hb1 X1 hbn HTK
      have hst : stepB pv ⟨x, bs⟩ = (whoB x && decide (bn = 16) && behB pv x) := by rw [HBN.out]; rfl
      rw [hst] at HST HGO
      clear hst
      cases hwx : whoB x
      · rw [hwx] at HST HGO H46
        have HS2 : Hid (wsB (qs.map (·.1)) = false) := HST.out rfl
        clear hpv HGO HST hwx
        go_upto_region 4 with fail
        rw [← HW1.out]
        refine wp_region_ord (C := fun w' => ∃ z : WIn (fun w' => Below w1.heap.size w1 w'), w' = z.w) [(false, 0), (false, 1), (true, 2), (false, 3), (false, 4), (false, 5), (false, 6), (false, 7), (false, 8), (false, 9), (false, 10), (false, 11), (false, 12), (false, 13), (false, 14), (false, 15), (false, 16), (false, 17), (false, 18), (false, 19), (false, 20), (false, 21), (false, 22), (false, 23), (false, 24)] (by kernel_rfl) (by kernel_rfl) ⟨⟨w1.drew, HD.out⟩, rfl⟩ ?_
        iterate 2 (refine ord_still rfl rfl ?_; go_big_quiet_step (exact rfl); refine wpQuiet_nil ?_)
        refine ord_mem rfl rfl ?_
        go_simp
        refine (H46.out w1.drew).mono ?_
        rintro r w2 ⟨rfl, rfl⟩
        refine ⟨⟨⟨w1.drew, HD.out⟩, rfl⟩, ?_⟩
        iterate 22 (refine ord_still rfl rfl ?_; go_big_quiet_step (exact rfl); refine wpQuiet_nil ?_)
        refine ord_end ?_
        go_wp2
        go_ret
        exact ⟨by rw [HS2.out]; rfl, HB1.out⟩
      · rw [hwx] at HST HGO H46
        by_cases h16 : bn = 16
        · subst h16
          rcases hpv with ⟨rfl, rfl⟩ | ⟨j, y, rfl, rfl, hy⟩
          · have HG2 : Hid (wsF none ((qs.map (·.1)).take (0 + 1)) = true) := HGO.out rfl
            clear HGO HST hwx
            simp only [Nat.zero_mul, Nat.add_zero] at c0 c1
            go_upto_region 4 with fail
            rw [← HW1.out]
            refine wp_region_ord (C := fun w' => ∃ z : WIn (fun w' => Below w1.heap.size w1 w'), w' = z.w) [(false, 0), (false, 1), (true, 2), (false, 3), (false, 4), (false, 5), (false, 6), (false, 7), (false, 8), (false, 9), (false, 10), (false, 11), (false, 12), (false, 13), (false, 14), (false, 15), (false, 16), (false, 17), (false, 18), (false, 19), (false, 20), (false, 21), (false, 22), (false, 23), (false, 24)] (by kernel_rfl) (by kernel_rfl) ⟨⟨w1.drew, HD.out⟩, rfl⟩ ?_
            iterate 2 (refine ord_still rfl rfl ?_; go_big_quiet_step (exact rfl); refine wpQuiet_nil ?_)
            refine ord_mem rfl rfl ?_
            go_simp
            refine (H46.out w1.drew).mono ?_
            rintro r w2 ⟨rfl, rfl⟩
            refine ⟨⟨⟨w1.drew, HD.out⟩, rfl⟩, ?_⟩
            iterate 22 (refine ord_still rfl rfl ?_; go_big_quiet_step (exact rfl); refine wpQuiet_nil ?_)
            refine ord_end ?_
            go_wp2
            go_roundw
            case rel => exact ⟨0 + 1, by go_num, by omega, HG2.out, HB1.out⟩
            case measure => simp [intOf]; omega
          · have y0 := HY.out j y rfl hy
            have hjn : j < n := by omega
            by_cases hlt : y.1.w < x
            · have HG2 : Hid (wsF none ((qs.map (·.1)).take (j + 1 + 1)) = true) := HGO.out (by simp [behB, hlt])
              clear HGO HST hwx hy
              generalize y.1.w = yw at *
              go_upto_region 4 with fail
              rw [← HW1.out]
              refine wp_region_ord (C := fun w' => ∃ z : WIn (fun w' => Below w1.heap.size w1 w'), w' = z.w) [(false, 0), (false, 1), (true, 2), (false, 3), (false, 4), (false, 5), (false, 6), (false, 7), (false, 8), (false, 9), (false, 10), (false, 11), (false, 12), (false, 13), (false, 14), (false, 15), (false, 16), (false, 17), (false, 18), (false, 19), (false, 20), (false, 21), (false, 22), (false, 23), (false, 24)] (by kernel_rfl) (by kernel_rfl) ⟨⟨w1.drew, HD.out⟩, rfl⟩ ?_
              iterate 2 (refine ord_still rfl rfl ?_; go_big_quiet_step (exact rfl); refine wpQuiet_nil ?_)
              refine ord_mem rfl rfl ?_
              go_simp
              refine (H46.out w1.drew).mono ?_
              rintro r w2 ⟨rfl, rfl⟩
              refine ⟨⟨⟨w1.drew, HD.out⟩, rfl⟩, ?_⟩
              iterate 22 (refine ord_still rfl rfl ?_; go_big_quiet_step (exact rfl); refine wpQuiet_nil ?_)
              refine ord_end ?_
              go_wp2
              go_roundw
              case rel => exact ⟨j + 1 + 1, by go_num, by omega, HG2.out, HB1.out⟩
              case measure => simp [intOf]; omega
            · have HS2 : Hid (wsB (qs.map (·.1)) = false) := HST.out (by simp [behB, hlt])
              clear HGO HST hwx hy
              generalize y.1.w = yw at *
              go_upto_region 4 with fail
              rw [← HW1.out]
              refine wp_region_ord (C := fun w' => ∃ z : WIn (fun w' => Below w1.heap.size w1 w'), w' = z.w) [(false, 0), (false, 1), (true, 2), (false, 3), (false, 4), (false, 5), (false, 6), (false, 7), (false, 8), (false, 9), (false, 10), (false, 11), (false, 12), (false, 13), (false, 14), (false, 15), (false, 16), (false, 17), (false, 18), (false, 19), (false, 20), (false, 21), (false, 22), (false, 23), (false, 24)] (by kernel_rfl) (by kernel_rfl) ⟨⟨w1.drew, HD.out⟩, rfl⟩ ?_
              iterate 2 (refine ord_still rfl rfl ?_; go_big_quiet_step (exact rfl); refine wpQuiet_nil ?_)
              refine ord_mem rfl rfl ?_
              go_simp
              refine (H46.out w1.drew).mono ?_
              rintro r w2 ⟨rfl, rfl⟩
              refine ⟨⟨⟨w1.drew, HD.out⟩, rfl⟩, ?_⟩
              iterate 22 (refine ord_still rfl rfl ?_; go_big_quiet_step (exact rfl); refine wpQuiet_nil ?_)
              refine ord_end ?_
              go_wp2
              go_ret
              exact ⟨by rw [HS2.out]; rfl, HB1.out⟩
        · have h16' : ((bn : Int) != 16) = true := by simp; omega
          have HS2 : Hid (wsB (qs.map (·.1)) = false) := HST.out (by simp [h16])
          clear hpv HGO HST hwx h16
          go_upto_region 4 with fail
          rw [← HW1.out]
          refine wp_region_ord (C := fun w' => ∃ z : WIn (fun w' => Below w1.heap.size w1 w'), w' = z.w) [(false, 0), (false, 1), (true, 2), (false, 3), (false, 4), (false, 5), (false, 6), (false, 7), (false, 8), (false, 9), (false, 10), (false, 11), (false, 12), (false, 13), (false, 14), (false, 15), (false, 16), (false, 17), (false, 18), (false, 19), (false, 20), (false, 21), (false, 22), (false, 23), (false, 24)] (by kernel_rfl) (by kernel_rfl) ⟨⟨w1.drew, HD.out⟩, rfl⟩ ?_
          iterate 2 (refine ord_still rfl rfl ?_; go_big_quiet_step (exact rfl); refine wpQuiet_nil ?_)
          refine ord_mem rfl rfl ?_
          go_simp
          refine (H46.out w1.drew).mono ?_
          rintro r w2 ⟨rfl, rfl⟩
          refine ⟨⟨⟨w1.drew, HD.out⟩, rfl⟩, ?_⟩
          iterate 22 (refine ord_still rfl rfl ?_; go_big_quiet_step (exact rfl); refine wpQuiet_nil ?_)
          refine ord_end ?_
          go_wp2
          go_ret
          exact ⟨by rw [HS2.out]; rfl, HB1.out⟩
    · have HE : Hid (wsB (qs.map (·.1)) = decide (0 < n)) := (show _ = _ by
        have e : (qs.map (·.1)).take k = qs.map (·.1) := List.take_of_length_le (by rw [List.length_map]; have := HN.out; omega)
        have := HI.out
        rw [e] at this
        rw [HWB.out, this, Bool.true_and])
      go_wp2
      go_ret
      refine ⟨?_, HB.out⟩
      rw [HE.out]
      refine ret_bool ?_
      simp
end
section
set_option linter.unusedVariables false
set_option linter.unusedSimpArgs false
set_option synthInstance.maxSize 20000
set_option maxHeartbeats 2000000
set_option maxRecDepth 20000
open Go.RowKit Go.Maps
theorem right27 {w : World} {c : Cg} {a b : Value} {qs : List Wq} (h : CgAt w c a b qs) : Calls Tryz.prog 62 #[cv c a b] w fun r w' => r = .returned (.bool (rightB c)) ∧ Below w.heap.size w w' := by
  obtain ⟨w1, hw1⟩ : ∃ w1, w1 = w.alloc (.cells (cc c a b).toArray 75) := ⟨_, rfl⟩
  have hb1 : Below w.heap.size w w1 := by rw [hw1]; exact balloc (Below.refl _ _) _
  have X1 : Blk w1 w.heap.size 75 (cc c a b) := by rw [hw1]; exact blk_new w _ 75
  have H46 : Hid (∀ w', Calls Tryz.prog 98 #[.int .i64 c.w] w' fun r w'' => r = .returned (.bool (whoB c.w)) ∧ w'' = w') := fun w' => who46 c.w w'
  have H48 : Hid (∀ w', Calls Tryz.prog 100 #[.int .i64 c.l, .int .i64 0, .int .i64 200] w' fun r w'' => r = .returned (.bool (decide (0 ≤ c.l ∧ c.l ≤ 200))) ∧ w'' = w') := fun w' => within48 c.l 0 200 w'
  have H47 : Hid (Calls Tryz.prog 99 #[cv c a b] w1 fun r w'' => r = .returned (.bool (keyB c)) ∧ Below w.heap.size w w'') := (show Calls _ _ _ _ _ from (key47 (h.below hb1)).mono fun r w'' h' => ⟨h'.1, bnext hb1 h'.2⟩)
  have H49 : Hid (Calls Tryz.prog 101 #[a] w1 fun r w'' => r = .returned (.bool (wsB c.ws)) ∧ Below w1.heap.size w1 w'') := by
    have := ws49 (h.below hb1).row (h.below hb1).rd
    rw [h.ws] at this
    exact this
  have H50 : Hid (∀ w', Below w1.heap.size w1 w' → Calls Tryz.prog 102 #[b] w' fun r w'' => r = .returned (.bool (oldB c.o)) ∧ w'' = w') := fun w' hb => old50 ((h.below hb1).below hb).old
  have HX : Hid (∀ w', Below w1.heap.size w1 w' → Blk w' w.heap.size 75 (cc c a b) ∧ Below w.heap.size w w') := fun w' hb => ⟨X1.below hb, bnext hb1 hb⟩
  have HR : Hid (Below w1.heap.size w1 w1) := (show Below _ _ _ from Below.refl _ _)
  have HB1 : Hid (Below w.heap.size w w1) := hb1
  have z0 := X1.cell 0 _ rfl; have z1 := X1.cell 1 _ rfl; have z2 := X1.cell 2 _ rfl; have z3 := X1.cell 3 _ rfl; have z4 := X1.cell 4 _ rfl; have z5 := X1.cell 5 _ rfl
  obtain ⟨aa, ca, rfl⟩ := h.row.len
  obtain ⟨ab, cb, rfl⟩ := h.old.len
  have HQ : Hid (rightB c = rightB c) := rfl
  generalize hrb : rightB c = rb
  unfold rightB at hrb
  obtain ⟨xk, xw, xp, xl, xws, xo⟩ := c
  unfold cv cc at *
  dsimp only at *
  generalize xo.length = n at *
  generalize qs.length = m at *
  have HW1 : Hid (w1 = w.alloc (.cells #[.int .i64 xk, .int .i64 xw, .int .u64 xp, .int .i64 xl, .slice aa m ca, .slice ab n cb] 75)) := hw1
  have HRB : Hid ((if xk = 1 then whoB xw && decide (xp ≠ 0) && decide (xl = 0) && keyB ⟨xk, xw, xp, xl, xws, xo⟩
    else if xk = 2 then whoB xw && decide (xw ≠ 0) && decide (xp = 0) && decide (0 ≤ xl ∧ xl ≤ 200) && keyB ⟨xk, xw, xp, xl, xws, xo⟩
    else if xk = 3 then decide (xw = 0) && decide (xp = 0) && decide (xl = 0) && wsB xws && oldB xo else false) = rb) := hrb
  clear hrb HQ h hw1 hb1 X1
  generalize keyB ⟨xk, xw, xp, xl, xws, xo⟩ = kb at *
  generalize wsB xws = sb at *
  generalize oldB xo = ob at *
  generalize whoB xw = wb at *
  generalize hlb : decide (0 ≤ xl ∧ xl ≤ 200) = lb at *
  by_cases k1 : xk = 1
  · subst k1
    have HRB2 : Hid ((wb && decide (xp ≠ 0) && decide (xl = 0) && kb) = rb) := HRB
    clear HRB hlb H48 H49 H50
    have hp : xp = 0 ∨ (xp != 0) = true := by by_cases e : xp = 0 <;> simp [e]
    have hl : xl = 0 ∨ (xl == 0) = false := by by_cases e : xl = 0 <;> simp [e]
    rcases hp with rfl | hp <;> rcases hl with rfl | hl <;> cases wb
    all_goals
      go_enter Tryz.func62, Tryz.ntmps62
      go_upto_region 1 with fail
      rw [← HW1.out]
      go_wp2_with (first
        | (go_at_call 98; go_must (refine (H46.out _).mono ?_; rintro r w2 ⟨rfl, rfl⟩))
        | (go_at_call 99; go_must (refine H47.out.mono ?_; rintro r w3 ⟨rfl, hb3⟩)))
      go_ret
      refine ⟨?_, by first | exact hb3 | exact HB1.out⟩
      rw [← HRB2.out]
      first | rfl | (refine ret_bool ?_; simp_all)
  · by_cases k2 : xk = 2
    · subst k2
      have HRB2 : Hid ((wb && decide (xw ≠ 0) && decide (xp = 0) && lb && kb) = rb) := HRB
      clear HRB hlb H49 H50 k1
      have hp : xp = 0 ∨ (xp == 0) = false := by by_cases e : xp = 0 <;> simp [e]
      have hw : xw = 0 ∨ (xw != 0) = true := by by_cases e : xw = 0 <;> simp [e]
      rcases hp with rfl | hp <;> rcases hw with rfl | hw <;> cases wb <;> cases lb
      all_goals
        go_enter Tryz.func62, Tryz.ntmps62
        go_upto_region 1 with fail
        rw [← HW1.out]
        go_wp2_with (first
          | (go_at_call 98; go_must (refine (H46.out _).mono ?_; rintro r w2 ⟨rfl, rfl⟩))
          | (go_at_call 100; go_must (refine (H48.out _).mono ?_; rintro r w2 ⟨rfl, rfl⟩))
          | (go_at_call 99; go_must (refine H47.out.mono ?_; rintro r w3 ⟨rfl, hb3⟩)))
        go_ret
        refine ⟨?_, by first | exact hb3 | exact HB1.out⟩
        rw [← HRB2.out]
        first | rfl | (refine ret_bool ?_; simp_all)
    · by_cases k3 : xk = 3
      · subst k3
        have HRB2 : Hid ((decide (xw = 0) && decide (xp = 0) && decide (xl = 0) && sb && ob) = rb) := HRB
        clear HRB hlb H46 H47 H48 k1 k2
        have hp : xp = 0 ∨ (xp == 0) = false := by by_cases e : xp = 0 <;> simp [e]
        have hw : xw = 0 ∨ (xw == 0) = false := by by_cases e : xw = 0 <;> simp [e]
        have hl : xl = 0 ∨ (xl == 0) = false := by by_cases e : xl = 0 <;> simp [e]
        rcases hp with rfl | hp <;> rcases hw with rfl | hw <;> rcases hl with rfl | hl <;> cases sb
        all_goals
          go_enter Tryz.func62, Tryz.ntmps62
          go_upto_region 1 with fail
          rw [← HW1.out]
          go_wp2_with (first
            | (go_at_call 101; go_must (refine H49.out.mono ?_; rintro r w2 ⟨rfl, hb2⟩; have Y := HX.out w2 hb2; have y5 := Y.1.cell 5 _ rfl; have HY2 : Hid (Below w.heap.size w w2) := Y.2; clear Y))
            | (go_at_call 102; go_must (refine (H50.out _ hb2).mono ?_; rintro r w3 ⟨rfl, rfl⟩)))
          go_ret
          refine ⟨?_, by first | exact HY2.out | exact HB1.out⟩
          rw [← HRB2.out]
          first | rfl | (refine ret_bool ?_; simp_all)
      · have HRB2 : Hid (false = rb) := (by have := HRB.out; rw [if_neg k1, if_neg k2, if_neg k3] at this; exact this)
        have h1 : (xk == 1) = false := by simpa using k1
        have h2 : (xk == 2) = false := by simpa using k2
        have h3 : (xk == 3) = false := by simpa using k3
        clear HRB hlb H46 H47 H48 H49 H50
        go_enter Tryz.func62, Tryz.ntmps62
        go_upto_region 1 with fail
        rw [← HW1.out]
        go_wp2
        go_ret
        refine ⟨?_, HB1.out⟩
        rw [← HRB2.out]
        rfl
end
end Go.Proofs.YtjbpfhnagiacmaaGreat
