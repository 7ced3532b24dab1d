/-
  The reference's Kids.
-/
import Derived.Test.YtjlpdoomchkfgaaTrW
import Derived.Test.YtjlpdoomchkfgaaRs
namespace Go.Proofs.Ytjlpdoomchkfgaa
set_option linter.unusedVariables false
set_option linter.unusedSimpArgs false
set_option synthInstance.maxSize 20000
set_option maxHeartbeats 2000000
set_option maxRecDepth 20000
open Go.RowKit Go.Maps

theorem own_belowT {w w' : World} {v : Value} {n : Nat} {cs : List Value} (h : w.ownsRow 0 41 10 v n cs) (hb : Below w.heap.size w w') : w'.ownsRow 0 41 10 v n cs := ownsRow_block h fun k hk => hb.block _ (h.lt k hk).2
/-- A row of items that the call made (blocks from B on). -/
structure OwnT (B : Nat) (w : World) (v : Value) (O : List IT) : Prop where
  own : w.ownsRow 0 41 10 v O.length (flat ic O)
  new : ∀ k, v.ownBlock = some k → B ≤ k
theorem OwnT.row {B : Nat} {w : World} {v : Value} {O : List IT} (h : OwnT B w v O) : RowF ic w v O := rowF_own ic_len h.own
theorem OwnT.below {B : Nat} {w w' : World} {v : Value} {O : List IT} (h : OwnT B w v O) (hb : Below w.heap.size w w') : OwnT B w' v O := ⟨own_belowT h.own hb, h.new⟩
theorem ownT_nil (B : Nat) (w : World) : OwnT B w (.slice none 0 0) [] := ⟨World.ownsRow_nil _ _ _ _, fun k hk => by cases hk⟩
/-- 'append(out, x)' of items onto a row that the call made. -/
theorem wpList_app41 {ops : Array Oper} {rest : List Oper} {o : Oper} {a : Act} {Q : Exit → Act → World → Prop} {w w0 : World} (hgd : o.guard = none) (s x : Operand) (ho : o.op = .call { callee := .builtin .append, args := #[s, x], argTypes := #[30, 30] })
    (v : Value) (O : List IT) (hs : a.eval s = v) (hown : OwnT w0.heap.size w v O) (y : Value) (q : IT) (hx : a.eval x = y) (hy : RowF ic w y [q]) (hlen : O.length ≤ 100000) (hb : Below w0.heap.size w0 w)
    (h : ∀ v' w', OwnT w0.heap.size w' v' (O ++ [q]) → Below w0.heap.size w0 w' → w.grownBy w' v.ownBlock → wpList Try.prog ops Q rest (a.put o.dst v') w') : wpList Try.prog ops Q (o :: rest) a w :=
  wpList_append_rows ty30 ic_len (by omega) hgd s x ho v O hs hown.own y [q] hx hy (flat_ic_one _) (by simp; omega) fun v' w' h1 h2 h3 => h v' w' ⟨h1, new_of hown.new hb.size h3⟩ (hb.grown h2 hb.size hown.new) h2
theorem OwnT.apart {B b : Nat} {w : World} {v : Value} {O : List IT} {e : TypeId} {vs : List Value} (h : OwnT B w v O) (hb : Blk w b e vs) (he : e ≠ 41) : v.ownBlock ≠ some b := fun hk => by
  rcases h.own.2 with ⟨rfl, _⟩ | ⟨g, cap, cur, rfl, _, hg, _⟩
  · cases hk
  · have e1 : g = b := by simpa [Value.ownBlock] using hk
    subst e1
    unfold Blk at hb
    rw [hb] at hg
    injection hg with hg
    injection hg with _ h2
    exact he h2
def kidT (n : S) (x : IT) : Bool := kidM n x.m
theorem kidsM_map (n : S) (L : List IT) : (L.filter (kidT n)).map IT.m = kidsM (L.map IT.m) n := by
  unfold kidsM
  rw [List.filter_map]
  rfl
theorem take_filter_more {f : IT → Bool} {L : List IT} {k : Nat} {x : IT} (h : L[k]? = some x) : (L.take (k + 1)).filter f = (L.take k).filter f ++ if f x = true then [x] else [] := by
  obtain ⟨h1, rfl⟩ := List.getElem?_eq_some_iff.1 h
  rw [List.take_succ_eq_append_getElem h1, List.filter_append]
  congr 1
  by_cases hf : f L[k] = true
  · rw [if_pos hf, List.filter_cons_of_pos hf, List.filter_nil]
  · rw [if_neg hf, List.filter_cons_of_neg hf, List.filter_nil]
set_option maxHeartbeats 4000000 in
theorem kids26 {w : World} {tb : Nat} {v : Value} {L : List IT} (h : RTr w tb v L) (hlen : L.length ≤ 1000) (n : S) :
    Calls Try.prog 26 #[ptr tb, sv n] w fun e w' => ∃ v', e = .returned v' ∧ OwnT w.heap.size w' v' (L.filter (kidT n)) ∧ Below w.heap.size w w' := by
  obtain ⟨a, c, rfl⟩ := h.row.len
  have hcap := h.row.caps
  have HRT : Hid (RTr w tb (.slice a L.length c) L) := h
  clear h
  obtain ⟨n1, n2⟩ := n
  obtain ⟨KT, hKT⟩ : ∃ KT, KT = kidT (n1, n2) := ⟨_, rfl⟩
  have HKT : Hid (∀ x, KT x = (decide (x.m.p = (n1, n2)) && !x.m.g)) := fun x => by rw [hKT]; rfl
  rw [← hKT]
  clear hKT
  unfold sv at *
  dsimp only at *
  obtain ⟨w1, hw1⟩ : ∃ w1, w1 = w.alloc (.cells #[.int .i64 n1, .int .i64 n2] 24) := ⟨_, rfl⟩
  obtain ⟨B0, hB0⟩ : ∃ B0, B0 = w.heap.size := ⟨_, rfl⟩
  have HB1 : Hid (Below w.heap.size w w1) := by show Below _ _ _; rw [hw1]; exact balloc (Below.refl _ _) _
  have HN1 : Hid (Blk w1 B0 24 [.int .i64 n1, .int .i64 n2]) := by show Blk _ _ _ _; rw [hw1, hB0]; exact blk_new w [.int .i64 n1, .int .i64 n2] 24
  go_enter Try.func26, Try.ntmps26
  go_upto_region 1 with fail
  rw [← hw1, ← hB0]
  clear hw1 hB0
  go_wp2
  go_loopw [5, 6] (fun vo i wr => ∃ (k : Nat), i = .int .i64 (k : Int) ∧ k ≤ L.length ∧ Hid (OwnT w.heap.size wr vo ((L.take k).filter KT)) ∧ Hid (Blk wr B0 24 [.int .i64 n1, .int .i64 n2]) ∧ Hid (Below w.heap.size w wr)) (fun _ i _ => L.length - (intOf i).toNat)
  case atStart => exact ⟨0, rfl, Nat.zero_le _, ownT_nil _ _, HN1, HB1⟩
  case round =>
    obtain ⟨k, rfl, hk, HO, HN, HB⟩ := hrel
    rename World => wr
    have HR : Hid (RTr wr tb (.slice a L.length c) L) := HRT.out.below HB.out
    have t0 := HR.out.blk.cell 0 _ rfl
    by_cases hlt : k < L.length
    · have hkI : (k : Int) < (L.length : Int) := by omega
      obtain ⟨x, hx⟩ : ∃ x, L[k]? = some x := ⟨_, List.getElem?_eq_getElem hlt⟩
      have HTA : Hid ((L.take (k + 1)).filter KT = (L.take k).filter KT ++ if KT x = true then [x] else []) := take_filter_more hx
      have hfl : ((L.take k).filter KT).length ≤ 1000 := Nat.le_trans (List.length_filter_le _ _) (by rw [List.length_take]; omega)
      obtain ⟨b1, o1, rfl, hc⟩ := HR.out.row.at ic_len hx
      have HC : Hid (∀ m, (wr.drewN m).rangeAt b1 (o1 + k * 10) (ic x)) := fun m => by
        obtain ⟨b1', o1', e1, h1⟩ := (HR.out.below (below_drewn wr m)).row.at ic_len hx
        cases e1
        exact h1
      have c2 := hc 2 _ rfl
      have c3 := hc 3 _ rfl
      have c6 := hc 6 _ rfl
      have d0 := HN.out.cell 0 _ rfl
      have d1 := HN.out.cell 1 _ rfl
      have HKX := HKT.out x
      have HKXX : Hid (KT x = (decide (x.m.p = (n1, n2)) && !x.m.g)) := HKX
      clear hc hx HKX
      generalize hO : (L.take k).filter KT = O at HO HTA hfl
      clear hO
      rcases two_cases x.m.p (n1, n2) with he | he | ⟨he, he2⟩
      · have HE : Hid (x.m.p = (n1, n2)) := he
        rw [he] at c2 c3
        clear he
        cases hg : x.m.g
        · rw [hg] at c6
          have HKY : Hid (KT x = true) := by show _ = _; rw [HKXX.out, HE.out, hg]; simp
          clear hg HKXX
          go_wp2_with fail
          go_quiet (fail)
          obtain ⟨wz, hwz⟩ : ∃ wz, wz = wr.drewN nq := ⟨_, rfl⟩
          rw [← hwz]
          have HBZ : Hid (Below wr.heap.size wr wz) := by show Below _ _ _; rw [hwz]; exact below_drewn _ _
          have HCZ : Hid (wz.rangeAt b1 (o1 + k * 10) (ic x)) := by show World.rangeAt _ _ _ _; rw [hwz]; exact HC.out _
          have HRZ : Hid (RTr wz tb (.slice (some ⟨b1, o1, none⟩) L.length c) L) := HR.out.below HBZ.out
          clear t0 hwz
          have t0 := HRZ.out.blk.cell 0 _ rfl
          have HBX : Hid (Below w.heap.size w (wz.alloc (.cells (ic x).toArray 41))) := balloc (bnext HB.out HBZ.out) _
          have HNX : Hid (Blk (wz.alloc (.cells (ic x).toArray 41)) B0 24 [.int .i64 n1, .int .i64 n2]) := (HN.out.below HBZ.out).alloc _
          have HOX : Hid (OwnT w.heap.size (wz.alloc (.cells (ic x).toArray 41)) _ O) := (HO.out.below HBZ.out).below (balloc (Below.refl _ _) _)
          have HXX : Hid (RowF ic (wz.alloc (.cells (ic x).toArray 41)) (.slice (some ⟨wz.heap.size, 0, none⟩) 1 1) [x]) := rowF_one wz x 41
          have tk1 : Hid True := trivial
          have tk2 : Hid True := trivial
          have tk3 : Hid True := trivial
          go_wp2_with (first
            | (clear tk1; refine wpList_okw rfl (exec_load41 (q := x) (.tmp 43) rfl rfl HCZ.out) ?_)
            | (clear tk2; refine wpList_okw rfl (exec_build41 (q := x) (.tmp 44) rfl rfl) ?_)
            | (clear tk3; refine wpList_app41 rfl (.tmp 37) (.tmp 45) rfl _ O rfl HOX.out _ x rfl HXX.out (by omega) HBX.out ?_; intro v5 w5 ho5 hb5 hg5; have HN5 : Hid (Blk w5 B0 24 [.int .i64 n1, .int .i64 n2]) := (show Blk _ _ _ _ from HNX.out.past' hg5 (HOX.out.apart HNX.out (by decide))); have HO5 : Hid (OwnT w.heap.size w5 v5 (O ++ [x])) := ho5; have HB5 : Hid (Below w.heap.size w w5) := hb5; clear ho5 hb5 hg5))
          go_roundw
          case rel => exact ⟨k + 1, by go_num, by omega, by show OwnT _ _ _ _; rw [HTA.out, if_pos HKY.out]; exact HO5.out, HN5, HB5⟩
          case measure => simp [intOf]; omega
        · rw [hg] at c6
          have HKY : Hid (KT x = false) := by show _ = _; rw [HKXX.out, hg]; simp
          clear hg HKXX
          go_wp2_with fail
          go_quiet (fail)
          go_wp2
          go_roundw
          case rel => exact ⟨k + 1, by go_num, by omega, by show OwnT _ _ _ _; rw [HTA.out, if_neg (by rw [HKY.out]; simp), List.append_nil]; exact HO.out.below (below_drewn _ _), HN.out.below (below_drewn _ _), bnext HB.out (below_drewn _ _)⟩
          case measure => simp [intOf]; omega
      all_goals
        have hne : ¬ x.m.p = (n1, n2) := fun e => by
          have e1 := congrArg Prod.fst e
          have e2 := congrArg Prod.snd e
          first
            | (rw [e1] at he; simp at he; done)
            | (rw [e2] at he2; simp at he2; done)
        have HKY : Hid (KT x = false) := by show _ = _; rw [HKXX.out, decide_eq_false hne]; rfl
        clear hne HKXX
        dsimp only at he
        try dsimp only at he2
        try rw [he] at c2
        go_wp2_with fail
        go_quiet (fail)
        go_wp2
        go_roundw
        case rel => exact ⟨k + 1, by go_num, by omega, by show OwnT _ _ _ _; rw [HTA.out, if_neg (by rw [HKY.out]; simp), List.append_nil]; exact HO.out.below (below_drewn _ _), HN.out.below (below_drewn _ _), bnext HB.out (below_drewn _ _)⟩
        case measure => simp [intOf]; omega
    · have hkI : ¬ (k : Int) < (L.length : Int) := by omega
      have HTL : Hid ((L.take k).filter KT = L.filter KT) := by show _ = _; rw [List.take_of_length_le (by omega)]
      go_wp2
      go_ret
      exact ⟨_, rfl, by rw [← HTL.out]; exact HO.out, HB.out⟩
end Go.Proofs.Ytjlpdoomchkfgaa
