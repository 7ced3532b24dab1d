/-
  The library's stable sort, at operations: blocks, then merges of blocks.
  A row's one cell; few operations, and none.
-/
import Derived.Test.YthnjbjlhfohpfaaSy3
import Derived.Test.YthnjbjlhfohpfaaCmW
namespace Go.Proofs.Ythnjbjlhfohpfaa
section
set_option linter.unusedVariables false
set_option linter.unusedSimpArgs false
set_option synthInstance.maxSize 20000
set_option maxHeartbeats 2000000
set_option maxRecDepth 20000
open Go.RowKit Go.Maps

/-- Blocks of k, each in order. -/
structure BlkL (k : Nat) (cs : List (List OpT)) : Prop where
  each : ∀ c ∈ cs, c.length = k ∧ SrtO c
theorem BlkL.len {k : Nat} : ∀ {cs : List (List OpT)}, BlkL k cs → cs.flatten.length = cs.length * k
  | [], _ => by simp
  | c :: cs, h => by
    have h1 := (h.each c (by simp)).1
    have h2 := BlkL.len (k := k) (cs := cs) ⟨fun d hd => h.each d (by simp [hd])⟩
    rw [List.flatten_cons, List.length_append, h1, h2, List.length_cons, Nat.add_mul]
    omega
theorem BlkL.snoc {k : Nat} {cs : List (List OpT)} (h : BlkL k cs) {c : List OpT} (h1 : c.length = k) (h2 : SrtO c) : BlkL k (cs ++ [c]) := ⟨fun d hd => by
  rcases List.mem_append.1 hd with hd | hd
  · exact h.each d hd
  · simp at hd; subst hd; exact ⟨h1, h2⟩⟩
/-- Blocks of k in order, and one that is shorter behind them. -/
structure Blocks (k : Nat) (l : List OpT) (cs : List (List OpT)) (r : List OpT) : Prop where
  eq : l = cs.flatten ++ r
  blk : BlkL k cs
  srt : SrtO r
  short : r.length < k
theorem Blocks.done {k : Nat} {l r : List OpT} {cs : List (List OpT)} (h : Blocks k l cs r) (hl : l.length ≤ k) (hk : 0 < k) : SrtO l := by
  have h1 := h.eq
  have h2 := h.blk.len
  have h3 := congrArg List.length h1
  rw [List.length_append, h2] at h3
  cases cs with
  | nil =>
    simp at h1
    rw [h1]
    exact h.srt
  | cons c cs =>
    rw [List.length_cons, Nat.add_mul] at h3
    have hc : cs = [] := by
      cases cs with
      | nil => rfl
      | cons d cs =>
        rw [List.length_cons, Nat.add_mul] at h3
        omega
    subst hc
    have hr : r = [] := List.eq_nil_of_length_eq_zero (by simp at h3; omega)
    subst hr
    simp at h1
    rw [h1]
    exact (h.blk.each c (by simp)).2
/-- What a merge of blocks has come to: blocks of 2 k (ds), blocks of k (cs), one that is shorter. -/
structure Mid (k : Nat) (l0 l : List OpT) (ds cs : List (List OpT)) (r : List OpT) : Prop where
  eq : l = ds.flatten ++ (cs.flatten ++ r)
  two : BlkL (2 * k) ds
  one : BlkL k cs
  srt : SrtO r
  short : r.length < k
  keep : Keep l0 l
theorem Mid.len {k : Nat} {l0 l r : List OpT} {ds cs : List (List OpT)} (h : Mid k l0 l ds cs r) : l.length = ds.length * (2 * k) + cs.length * k + r.length := by
  rw [h.eq, List.length_append, List.length_append, h.two.len, h.one.len]
  omega
theorem Mid.pair {k : Nat} {l0 l r : List OpT} {ds cs : List (List OpT)} (h : Mid k l0 l ds cs r) (hl : ds.length * (2 * k) + 2 * k ≤ l.length) : ∃ c1 c2 cs', cs = c1 :: c2 :: cs' := by
  have h1 := h.len
  have h2 := h.short
  cases cs with
  | nil => simp at h1; omega
  | cons c1 cs =>
    cases cs with
    | nil => simp at h1; omega
    | cons c2 cs => exact ⟨c1, c2, cs, rfl⟩
theorem Mid.merge {k : Nat} {l0 l r : List OpT} {ds : List (List OpT)} {c1 c2 : List OpT} {cs : List (List OpT)} (h : Mid k l0 l ds (c1 :: c2 :: cs) r) {z : List OpT} (hz : MrgS c1 c2 z) :
    Mid k l0 (ds.flatten ++ (z ++ (cs.flatten ++ r))) (ds ++ [z]) cs r := by
  have a1 := h.one.each c1 (by simp)
  have a2 := h.one.each c2 (by simp)
  refine ⟨by simp, h.two.snoc (by rw [hz.len, a1.1, a2.1]; omega) hz.srt, ⟨fun d hd => h.one.each d (by simp [hd])⟩, h.srt, h.short, h.keep.trans ?_⟩
  have e := h.eq
  rw [e]
  have := (Keep.refl ds.flatten).append (hz.keep.append (Keep.refl (cs.flatten ++ r)))
  simpa using this
/-- The end of a round of merges: what is left is one block, or none, and one that is shorter. -/
theorem Mid.left {k : Nat} {l0 l r : List OpT} {ds cs : List (List OpT)} (h : Mid k l0 l ds cs r) (hl : l.length < ds.length * (2 * k) + 2 * k) : cs = [] ∨ ∃ c, cs = [c] := by
  have h1 := h.len
  cases cs with
  | nil => exact .inl rfl
  | cons c1 cs =>
    cases cs with
    | nil => exact .inr ⟨c1, rfl⟩
    | cons c2 cs =>
      rw [List.length_cons, List.length_cons, Nat.add_mul, Nat.add_mul] at h1
      omega

theorem insertion90_nil (w : World) (cf : Value) : Calls Try.prog 96 #[.slice none 0 0, .int .i64 0, .int .i64 0, cf] w fun e w' => e = .returned (.tuple #[]) ∧ w' = w := by
  go_enter Try.func96, Try.ntmps96
  go_wp2
  go_loopw [8] (fun vi wr => vi = .int .i64 1 ∧ Hid (wr = w)) (fun _ _ => 0)
  case atStart => exact ⟨rfl, rfl⟩
  case round =>
    obtain ⟨rfl, HW⟩ := hrel
    have hw := HW.out
    subst hw
    go_wp2
    go_end0
    exact ⟨rfl, rfl⟩
theorem stable77_nil (w : World) (cf : Value) : Calls Try.prog 86 #[.slice none 0 0, .int .i64 0, cf] w fun e w' => e = .returned (.tuple #[]) ∧ w' = w := by
  go_enter Try.func86, Try.ntmps86
  go_wp2
  go_loopw [7, 8] (fun va vb wr => va = .int .i64 0 ∧ vb = .int .i64 20 ∧ Hid (wr = w)) (fun _ _ _ => 0)
  case atStart => exact ⟨rfl, rfl, rfl⟩
  case round =>
    obtain ⟨rfl, rfl, HW⟩ := hrel
    have hw := HW.out
    subst hw
    go_wp2_with (go_at_call 96; go_must (refine (insertion90_nil _ cf).mono ?_; rintro r w2 ⟨rfl, rfl⟩))
    rename World => wq
    go_loopw [6] (fun va w2 => va = .int .i64 20 ∧ Hid (w2 = wq)) (fun _ _ => 0)
    case atStart => exact ⟨rfl, rfl⟩
    case round =>
      obtain ⟨rfl, HW⟩ := hrel
      have hw := HW.out
      subst hw
      go_wp2
      go_end0
      exact ⟨rfl, rfl⟩
theorem stable77 {w : World} {g N cap : Nat} {l : List OpT} (hr : Row w g N cap l) (hN : N ≤ 1000000) :
    Calls Try.prog 86 #[.slice (some ⟨g, 0, none⟩) N cap, .int .i64 (N : Int), .func (.func 68) #[] #[]] w fun e w' => e = .returned (.tuple #[]) ∧ ∃ z, SrtO z ∧ Keep l z ∧ Row w' g N cap z ∧ w.grownBy w' (some g) := by
  have HR : Hid (Row w g N cap l) := hr
  have hlen := hr.1
  have hN' : (N : Int) ≤ 1000000 := by omega
  have HB0 : Hid (BlkL 20 []) := ⟨fun c hc => by cases hc⟩
  clear hr hlen
  go_enter Try.func86, Try.ntmps86
  go_wp2
  go_loopw [7, 8] (fun va vb wr => ∃ (a b : Nat) (ds : List (List OpT)) (y : List OpT), va = .int .i64 (a : Int) ∧ vb = .int .i64 (b : Int) ∧ b = a + 20 ∧ a ≤ N ∧ Hid (a = ds.length * 20) ∧ Hid (BlkL 20 ds) ∧ Hid (Keep l (ds.flatten ++ y)) ∧ Hid (Row wr g N cap (ds.flatten ++ y)) ∧ Hid (w.grownBy wr (some g))) (fun va _ _ => N - (intOf va).toNat)
  case atStart => exact ⟨0, 20, [], l, rfl, rfl, rfl, Nat.zero_le _, rfl, HB0, by simpa using (show Hid (Keep l l) from Keep.refl _), by simpa using HR, grown_refl _ _⟩
  case round =>
    obtain ⟨a, b, ds, y, rfl, rfl, hab, haN, HA, HB, HK, HR1, HG1⟩ := hrel
    have hab' : (a : Int) + 20 = (b : Int) := by omega
    have HAB : Hid (b = a + 20) := hab
    have hbN : (b : Int) ≤ 1000020 := by omega
    have hba : a < b := by omega
    clear hab
    by_cases hle : b ≤ N
    · have hle' : (b : Int) ≤ (N : Int) := by omega
      have hyl : 20 ≤ y.length := by
        have h1 := HR1.out.1; have h2 := HB.out.len; have h3 := HA.out
        rw [List.length_append, h2] at h1
        have := HAB.out
        omega
      have HYL : Hid (20 ≤ y.length) := hyl
      have HIN : Hid (Calls Try.prog 96 #[.slice (some ⟨g, 0, none⟩) N cap, .int .i64 (a : Int), .int .i64 (b : Int), .func (.func 68) #[] #[]] wr fun e w' => e = .returned (.tuple #[]) ∧ ∃ z, InsS (y.take 20) z [] ∧ Row w' g N cap (ds.flatten ++ (z ++ y.drop 20)) ∧ wr.grownBy w' (some g)) := by
        refine insertion90 (p := ds.flatten) (x := y.take 20) (s := y.drop 20) (by rw [List.take_append_drop]; exact HR1.out) (by rw [HB.out.len]; exact HA.out) (by rw [List.length_take]; have := HAB.out; omega) hN
      clear hyl
      go_wp2_with (go_at_call 96; go_must (refine HIN.out.mono ?_; rintro r w2 ⟨rfl, z, hz, hR2, hG2⟩; have HZ : Hid (InsS (y.take 20) z []) := hz; have HR2 : Hid (Row w2 g N cap (ds.flatten ++ (z ++ y.drop 20))) := hR2; have HG2 : Hid (w.grownBy w2 (some g)) := grown_trans HG1.out hG2 (fun k hk => .inl hk); clear hz hR2 hG2))
      go_roundw
      case rel =>
        refine ⟨b, b + 20, ds ++ [z], y.drop 20, rfl, by go_num, rfl, hle, ?_, ?_, ?_, ?_, HG2⟩
        · show _ = _; rw [List.length_append, List.length_singleton]; have := HA.out; have := HAB.out; omega
        · exact HB.out.snoc (by have h1 := HZ.out.len; have h2 := HYL.out; rw [List.length_take] at h1; simp at h1; omega) HZ.out.srt
        · show Keep _ _
          refine HK.out.trans ?_
          have h1 := HZ.out.keep
          rw [List.append_nil] at h1
          have := (Keep.refl ds.flatten).append (h1.append (Keep.refl (y.drop 20)))
          rw [List.take_append_drop] at this
          simpa using this
        · show Row _ _ _ _ _
          have := HR2.out
          simpa using this
      case measure => simp [intOf] <;> omega
    · have hle' : ¬ (b : Int) ≤ (N : Int) := by omega
      have hyl : a + y.length = N ∧ y.length < 20 := by
        have h1 := HR1.out.1; have h2 := HB.out.len; have h3 := HA.out
        rw [List.length_append, h2] at h1
        have := HAB.out
        omega
      have HYL : Hid (a + y.length = N ∧ y.length < 20) := hyl
      have HIN : Hid (Calls Try.prog 96 #[.slice (some ⟨g, 0, none⟩) N cap, .int .i64 (a : Int), .int .i64 (N : Int), .func (.func 68) #[] #[]] wr fun e w' => e = .returned (.tuple #[]) ∧ ∃ z, InsS y z [] ∧ Row w' g N cap (ds.flatten ++ (z ++ [])) ∧ wr.grownBy w' (some g)) := by
        refine insertion90 (p := ds.flatten) (x := y) (s := []) (by rw [List.append_nil]; exact HR1.out) (by rw [HB.out.len]; exact HA.out) hyl.1.symm hN
      clear hyl
      go_wp2_with (go_at_call 96; go_must (refine HIN.out.mono ?_; rintro r w2 ⟨rfl, z, hz, hR2, hG2⟩; have HZ : Hid (InsS y z []) := hz; have HR2 : Hid (Row w2 g N cap (ds.flatten ++ (z ++ []))) := hR2; have HG2 : Hid (w.grownBy w2 (some g)) := grown_trans HG1.out hG2 (fun k hk => .inl hk); clear hz hR2 hG2))
      have HBK : Hid (Blocks 20 (ds.flatten ++ z) ds z) := ⟨rfl, HB.out, HZ.out.srt, by have h1 := HZ.out.len; have h2 := HYL.out.2; simp at h1; omega⟩
      have HK2 : Hid (Keep l (ds.flatten ++ z)) := by
        show Keep _ _
        refine HK.out.trans ?_
        have h1 := HZ.out.keep
        rw [List.append_nil] at h1
        exact (Keep.refl ds.flatten).append h1
      have HR3 : Hid (Row w2 g N cap (ds.flatten ++ z)) := by show Row _ _ _ _ _; have := HR2.out; rw [List.append_nil] at this; exact this
      go_loopw [6] (fun vs w3 => ∃ (k : Nat) (l1 : List OpT) (cs : List (List OpT)) (q : List OpT), vs = .int .i64 (k : Int) ∧ 20 ≤ k ∧ k ≤ 2000000 ∧ Hid (Blocks k l1 cs q) ∧ Hid (Keep l l1) ∧ Hid (Row w3 g N cap l1) ∧ Hid (w.grownBy w3 (some g))) (fun vs _ => N - (intOf vs).toNat)
      case atStart => exact ⟨20, _, ds, z, rfl, by omega, by omega, HBK, HK2, HR3, HG2⟩
      case round =>
        obtain ⟨k, l1, cs, q, rfl, hk20, hkm, HBk, HK3, HR4, HG4⟩ := hrel
        rename World => w3
        by_cases hkN : k < N
        · have hkN' : (k : Int) < (N : Int) := by omega
          have hk0 : (0 : Int) < (k : Int) := by omega
          have HM0 : Hid (Mid k l1 l1 [] cs q) := ⟨by have := HBk.out.eq; simpa using this, ⟨fun c hc => by cases hc⟩, HBk.out.blk, HBk.out.srt, HBk.out.short, Keep.refl _⟩
          go_wp2
          go_loopw [7, 8] (fun va vb wx => ∃ (a b : Nat) (l2 : List OpT) (es cs : List (List OpT)), va = .int .i64 (a : Int) ∧ vb = .int .i64 (b : Int) ∧ b = a + 2 * k ∧ a ≤ N ∧ Hid (a = es.length * (2 * k)) ∧ Hid (Mid k l1 l2 es cs q) ∧ Hid (Row wx g N cap l2) ∧ Hid (w.grownBy wx (some g))) (fun va _ _ => N - (intOf va).toNat)
          case atStart => exact ⟨0, 2 * k, l1, [], cs, rfl, by go_num, by omega, Nat.zero_le _, (show _ = _ by simp), HM0, HR4, HG4⟩
          case round =>
            obtain ⟨a, b, l2, es, cs, rfl, rfl, hab, haN, HA, HM, HR5, HG5⟩ := hrel
            rename World => wx
            have hab2 : (a : Int) ≤ 1000000 := by omega
            have hb2 : (b : Int) ≤ 5000000 := by omega
            have habz : (b : Int) = (a : Int) + 2 * (k : Int) := by omega
            have HABZ : Hid ((b : Int) = (a : Int) + 2 * (k : Int)) := habz
            clear habz
            have hl2 := HR5.out.1
            have HAB2 : Hid (b = a + 2 * k) := hab
            have hba2 : a < b := by omega
            clear hab
            by_cases hle2 : b ≤ N
            · have hle2' : (b : Int) ≤ (N : Int) := by omega
              obtain ⟨c1, c2, cs', rfl⟩ := HM.out.pair (by have := HA.out; have := HAB2.out; omega)
              obtain ⟨mm, hmm⟩ : ∃ mm : Nat, (a : Int) + (k : Int) = (mm : Int) := ⟨a + k, by omega⟩
              have HSY : Hid (Calls Try.prog 97 #[.slice (some ⟨g, 0, none⟩) N cap, .int .i64 (a : Int), .int .i64 (mm : Int), .int .i64 (b : Int), .func (.func 68) #[] #[]] wx fun e w' => e = .returned (.tuple #[]) ∧ ∃ z, MrgS c1 c2 z ∧ Row w' g N cap (es.flatten ++ (z ++ (cs'.flatten ++ q))) ∧ wx.grownBy w' (some g)) := by
                have a1 := HM.out.one.each c1 (by simp)
                have a2 := HM.out.one.each c2 (by simp)
                have a3 := HM.out.two.len
                have a4 := HA.out
                have a5 := HAB2.out
                refine sym91 (b - a) (p := es.flatten) (x := c1) (y := c2) (s := cs'.flatten ++ q) ?_ (by omega) (by omega) (by omega) a1.2 a2.2 (by omega) (by omega) hN (Nat.le_refl _)
                have := HR5.out
                rw [HM.out.eq] at this
                simpa using this
              clear hl2
              go_wp2_with (go_at_call 97; go_must (refine HSY.out.mono ?_; rintro r w6 ⟨rfl, z6, hz, hR6, hG6⟩; have HZ6 : Hid (MrgS c1 c2 z6) := hz; have HR6 : Hid (Row w6 g N cap (es.flatten ++ (z6 ++ (cs'.flatten ++ q)))) := hR6; have HG6 : Hid (w.grownBy w6 (some g)) := grown_trans HG5.out hG6 (fun k hk => .inl hk); clear hz hR6 hG6))
              go_roundw
              case rel => exact ⟨b, b + 2 * k, _, es ++ [z6], cs', rfl, by go_num, rfl, hle2, (show _ = _ by rw [List.length_append, List.length_singleton, Nat.add_mul]; have := HA.out; have := HAB2.out; omega), HM.out.merge HZ6.out, HR6, HG6⟩
              case measure => simp [intOf] <;> omega
            · have hle2' : ¬ (b : Int) ≤ (N : Int) := by omega
              have hlf := HM.out.left (by have := HA.out; have := HAB2.out; omega)
              have hln := HM.out.len
              obtain ⟨mm, hmm⟩ : ∃ mm : Nat, (a : Int) + (k : Int) = (mm : Int) := ⟨a + k, by omega⟩
              have hk3 : 2 * k ≤ 2000000 := by omega
              by_cases hmN : mm < N
              · have hmN' : (mm : Int) < (N : Int) := by omega
                obtain ⟨c1, rfl⟩ : ∃ c, cs = [c] := by
                  rcases hlf with rfl | h
                  · have h1 := HM.out.short; have h2 := HA.out
                    simp at hln
                    omega
                  · exact h
                have HSY : Hid (Calls Try.prog 97 #[.slice (some ⟨g, 0, none⟩) N cap, .int .i64 (a : Int), .int .i64 (mm : Int), .int .i64 (N : Int), .func (.func 68) #[] #[]] wx fun e w' => e = .returned (.tuple #[]) ∧ ∃ z, MrgS c1 q z ∧ Row w' g N cap (es.flatten ++ (z ++ [])) ∧ wx.grownBy w' (some g)) := by
                  have a1 := HM.out.one.each c1 (by simp)
                  have a3 := HM.out.two.len
                  have a4 := HA.out
                  simp only [List.length_singleton, Nat.one_mul] at hln
                  refine sym91 (N - a) (p := es.flatten) (x := c1) (y := q) (s := []) ?_ (by omega) (by omega) (by omega) a1.2 HM.out.srt (by omega) (by omega) hN (Nat.le_refl _)
                  have := HR5.out
                  rw [HM.out.eq] at this
                  simpa using this
                have HLN : Hid (c1.length = k ∧ q.length < k) := ⟨(HM.out.one.each c1 (by simp)).1, HM.out.short⟩
                clear hl2 hln hlf
                go_wp2_with (go_at_call 97; go_must (refine HSY.out.mono ?_; rintro r w6 ⟨rfl, z6, hz, hR6, hG6⟩; have HZ6 : Hid (MrgS c1 q z6) := hz; have HR6 : Hid (Row w6 g N cap (es.flatten ++ (z6 ++ []))) := hR6; have HG6 : Hid (w.grownBy w6 (some g)) := grown_trans HG5.out hG6 (fun k hk => .inl hk); clear hz hR6 hG6))
                go_roundw
                case rel =>
                  refine ⟨2 * k, es.flatten ++ z6, es, z6, by go_num, by omega, hk3, ⟨rfl, HM.out.two, HZ6.out.srt, by rw [HZ6.out.len]; have := HLN.out; omega⟩, ?_, ?_, HG6⟩
                  · show Keep _ _
                    refine HK3.out.trans (HM.out.keep.trans ?_)
                    have := (Keep.refl es.flatten).append HZ6.out.keep
                    rw [HM.out.eq]
                    simpa using this
                  · show Row _ _ _ _ _
                    have := HR6.out
                    rw [List.append_nil] at this
                    exact this
                case measure => simp [intOf] <;> omega
              · have hmN' : ¬ (mm : Int) < (N : Int) := by omega
                have HBE : Hid (∃ z6, Blocks (2 * k) l2 es z6) := by
                  show ∃ _, _
                  have a4 := HA.out
                  rcases hlf with rfl | ⟨c1, rfl⟩
                  · exact ⟨q, by have := HM.out.eq; simpa using this, HM.out.two, HM.out.srt, by have := HM.out.short; omega⟩
                  · have a1 := HM.out.one.each c1 (by simp)
                    simp only [List.length_singleton, Nat.one_mul] at hln
                    have hq : q = [] := List.eq_nil_of_length_eq_zero (by omega)
                    subst hq
                    exact ⟨c1, by have := HM.out.eq; simpa using this, HM.out.two, a1.2, by omega⟩
                clear hl2 hln hlf
                go_wp2
                go_roundw
                case rel =>
                  obtain ⟨z6, hz6⟩ := HBE.out
                  exact ⟨2 * k, l2, es, z6, by go_num, by omega, hk3, hz6, HK3.out.trans HM.out.keep, HR5, HG5⟩
                case measure => simp [intOf] <;> omega
        · have hkN' : ¬ (k : Int) < (N : Int) := by omega
          go_wp2
          go_end0
          exact ⟨rfl, l1, HBk.out.done (by rw [HR4.out.1]; omega) (by omega), HK3.out, HR4.out, HG4.out⟩
theorem sortStable49 {w : World} {g N cap : Nat} {l : List OpT} (hr : Row w g N cap l) (hN : N ≤ 1000000) :
    Calls Try.prog 67 #[.slice (some ⟨g, 0, none⟩) N cap, .func (.func 68) #[] #[]] w fun e w' => e = .returned (.tuple #[]) ∧ ∃ z, SrtO z ∧ Keep l z ∧ Row w' g N cap z ∧ w.grownBy w' (some g) := by
  have HC : Hid (Calls Try.prog 86 #[.slice (some ⟨g, 0, none⟩) N cap, .int .i64 (N : Int), .func (.func 68) #[] #[]] w fun e w' => e = .returned (.tuple #[]) ∧ ∃ z, SrtO z ∧ Keep l z ∧ Row w' g N cap z ∧ w.grownBy w' (some g)) := stable77 hr hN
  clear hr
  go_enter Try.func67, Try.ntmps67
  go_wp2_with (go_at_call 86; go_must (refine HC.out.mono ?_; rintro r w2 ⟨rfl, z, hz1, hz2, hz3, hz4⟩))
  go_end0
  exact ⟨rfl, z, hz1, hz2, hz3, hz4⟩
theorem sortStable49_nil (w : World) (cf : Value) : Calls Try.prog 67 #[.slice none 0 0, cf] w fun e w' => e = .returned (.tuple #[]) ∧ w' = w := by
  go_enter Try.func67, Try.ntmps67
  go_wp2_with (go_at_call 86; go_must (refine (stable77_nil _ cf).mono ?_; rintro r w2 ⟨rfl, rfl⟩))
  go_end0
  exact ⟨rfl, rfl⟩
end

section
set_option linter.unusedVariables false
set_option linter.unusedSimpArgs false
set_option synthInstance.maxSize 20000
set_option maxHeartbeats 2000000
set_option maxRecDepth 20000
open Go.RowKit Go.Maps

theorem oc_set9 (x : OpT) (a : Option Addr) (n c : Nat) (b : List Int) : (oc x).set 9 (.slice a n c) = oc ⟨x.k, x.a, x.n, x.p, x.d, x.s, a, n, c, b⟩ := rfl
theorem flat_set9 (p s : List OpT) (x y : OpT) (v : Value) (h : (oc x).set 9 v = oc y) : (flat oc (p ++ x :: s)).set (p.length * 10 + 9) v = flat oc (p ++ y :: s) := by
  have h1 : (flat oc p).length = p.length * 10 := flat_length oc_len _
  have e : ∀ z, flat oc (p ++ z :: s) = flat oc p ++ (oc z ++ flat oc s) := fun z => by rw [flat_append]; rfl
  rw [e, e, List.set_append_right _ _ (by omega), h1, Nat.add_sub_cancel_left, List.set_append_left _ _ (by rw [oc_len]; omega), h]
/-- The content of one operation of a row is stored. -/
theorem Row.put9 {w : World} {g N cap : Nat} {p s : List OpT} {x y : OpT} {v : Value} (h : Row w g N cap (p ++ x :: s)) (hv : (oc x).set 9 v = oc y) : Row (w.setCell ⟨g, p.length * 10 + 9, none⟩ v) g N cap (p ++ y :: s) := by
  obtain ⟨hl, hx, hh⟩ := h
  rcases hh with ⟨e, _⟩ | ⟨g', cap', cur, e, h3, h4, h5, h6, h7, h8⟩
  · cases e
  · cases e
    have hb : Blk w g 36 cur.toList := by unfold Blk; simpa using h4
    have q1 := hb.set (p.length * 10 + 9) v
    have hlp : p.length + 1 + s.length = N := by simp at hl; omega
    refine ⟨by simpa using hl, ?_, .inr ⟨g, cap, _, rfl, Nat.zero_le _, q1, h5, h6, by simpa using h7, ?_⟩⟩
    · rw [flat_length oc_len]; simp at hl ⊢; omega
    · rw [List.toList_toArray, List.take_set, h8, flat_set9 p s x y v hv]
theorem compact51_few {w : World} {g N cap : Nat} (hN : N < 2) : Calls Try.prog 69 #[.slice (some ⟨g, 0, none⟩) N cap, .func (.func 70) #[] #[]] w fun e w' => e = .returned (.slice (some ⟨g, 0, none⟩) N cap) ∧ w' = w := by
  have hNI : (N : Int) < 2 := by omega
  go_enter Try.func69, Try.ntmps69
  go_wp2
  go_ret
  exact ⟨rfl, rfl⟩
theorem compact51_nil (w : World) : Calls Try.prog 69 #[.slice none 0 0, .func (.func 70) #[] #[]] w fun e w' => e = .returned (.slice none 0 0) ∧ w' = w := by
  go_enter Try.func69, Try.ntmps69
  go_wp2
  go_ret
  exact ⟨rfl, rfl⟩
theorem firstsO_few {l : List OpT} (h : l.length < 2) : firstsO l = l := by
  match l, h with
  | [], _ => rfl
  | [x], _ => rfl
  | x :: y :: r, h => simp at h; omega
theorem compact51_any {w : World} {g N cap : Nat} {l : List OpT} (hr : Row w g N cap l) (hN2 : N ≤ 1000000) :
    Calls Try.prog 69 #[.slice (some ⟨g, 0, none⟩) N cap, .func (.func 70) #[] #[]] w fun e w' => ∃ n, e = .returned (.slice (some ⟨g, 0, none⟩) n cap) ∧ n = (firstsO l).length ∧ Row w' g n cap (firstsO l) ∧ w.grownBy w' (some g) := by
  by_cases h : 2 ≤ N
  · exact compact51 hr hN2 h
  · refine (compact51_few (by omega)).mono ?_
    rintro e w' ⟨rfl, rfl⟩
    have hl := hr.1
    rw [firstsO_few (by omega)]
    exact ⟨N, rfl, hl.symm, hr, grown_refl _ _⟩
end
end Go.Proofs.Ythnjbjlhfohpfaa
