/-
  The reference's find and Get.
  The reference's Get.
-/
import Derived.Test.YthnjbjlhfohpfaaGreatRow
import Derived.Test.YthnjbjlhfohpfaaGreatWirP
import Derived.Test.YthnjbjlhfohpfaaGreatRs
import Derived.Laws.ResultCell
namespace Go.Proofs.YthnjbjlhfohpfaaGreat
section
set_option linter.unusedVariables false
set_option linter.unusedSimpArgs false
set_option synthInstance.maxSize 20000
set_option maxHeartbeats 2000000
set_option maxRecDepth 20000
open Go.RowKit Go.Maps

theorem findM_none {L : List IM} {n : S} (h : ∀ x ∈ L, ¬ x.n = n) : findM L n = none := by
  unfold findM
  rw [List.find?_eq_none]
  intro x hx
  simp [atN, h x hx]
theorem findM_some {u r : List IM} {x : IM} {n : S} (h : ∀ x ∈ u, ¬ x.n = n) (hx : x.n = n) : findM (u ++ x :: r) n = some x := by
  unfold findM
  rw [List.find?_append]
  have := findM_none h
  unfold findM at this
  rw [this, List.find?_cons_of_pos (by simp [atN, hx])]
  rfl
set_option maxHeartbeats 4000000 in
theorem find44 {w : World} {tb : Nat} {v : Value} {L : List IT} (h : RTr w tb v L) (n : S) :
    Calls Tryz.prog 68 #[ptr tb, sv n] w fun e w' => ∃ i : Int, e = .returned (.int .i64 i) ∧ Hid ((i = -1 ∧ ∀ x ∈ L, ¬ x.m.n = n) ∨ ∃ u x r, i = (u.length : Int) ∧ L = u ++ x :: r ∧ (∀ x ∈ u, ¬ x.m.n = n) ∧ x.m.n = n) ∧ Below w.heap.size w w' := by
  obtain ⟨n1, n2⟩ := n
  unfold sv
  dsimp only
  obtain ⟨a, c, rfl⟩ := h.row.len
  have hcap := h.row.caps
  have HR : Hid (RowF ic w (.slice a L.length c) L) := h.row
  have HT : Hid (Blk w tb 54 [.slice a L.length c]) := h.blk
  clear h
  obtain ⟨w1, hw1⟩ : ∃ w1, w1 = w.alloc (.cells #[.int .i64 n1, .int .i64 n2] 35) := ⟨_, rfl⟩
  obtain ⟨B0, hB0⟩ : ∃ B0, B0 = w.heap.size := ⟨_, rfl⟩
  have HB1 : Hid (Below w.heap.size w w1) := by show Below _ _ _; rw [hw1]; exact balloc (Below.refl _ _) _
  have HX : Hid (Blk w1 B0 35 [.int .i64 n1, .int .i64 n2]) := by show Blk _ _ _ _; rw [hw1, hB0]; exact blk_new w [.int .i64 n1, .int .i64 n2] 35
  go_enter Tryz.func68, Tryz.ntmps68
  go_upto_region 1 with fail
  rw [← hw1, ← hB0]
  clear hw1 hB0
  go_wp2
  go_loopw [5] (fun i wr => ∃ k : Nat, i = .int .i64 (k : Int) ∧ k ≤ L.length ∧ Hid (∀ x ∈ L.take k, ¬ x.m.n = (n1, n2)) ∧ Hid (Below w1.heap.size w1 wr)) (fun i _ => L.length - (intOf i).toNat)
  case atStart => exact ⟨0, rfl, Nat.zero_le _, fun x hx => by simp at hx, Below.refl _ _⟩
  case round =>
    obtain ⟨k, rfl, hk, HN, HB⟩ := hrel
    rename World => wr
    have t0 := (HT.out.below (bnext HB1.out HB.out)).cell 0 _ rfl
    by_cases hlt : k < L.length
    · have hkI : (k : Int) < (L.length : Int) := by omega
      obtain ⟨x, hx⟩ : ∃ x, L[k]? = some x := ⟨_, List.getElem?_eq_getElem hlt⟩
      have HXX : Hid (L[k]? = some x) := hx
      obtain ⟨b1, o1, rfl, hc⟩ := (HR.out.below (bnext HB1.out HB.out)).at ic_len hx
      have c0 := hc 0 _ rfl; rw [Nat.add_zero] at c0
      have c1 := hc 1 _ rfl
      have d0 := (HX.out.below HB.out).cell 0 _ rfl
      have d1 := (HX.out.below HB.out).cell 1 _ rfl
      clear hc hx
      have HTA : Hid (L.take (k + 1) = L.take k ++ [x]) := by
        show _ = _
        obtain ⟨h1, h2⟩ := List.getElem?_eq_some_iff.1 HXX.out
        rw [List.take_succ_eq_append_getElem h1, h2]
      rcases two_cases x.m.n (n1, n2) with he | he | ⟨he, he2⟩
      · have HE : Hid (x.m.n = (n1, n2)) := he
        rw [he] at c0 c1
        clear he
        go_wp2_with fail
        go_quiet (fail)
        go_wp2
        go_ret
        refine ⟨_, rfl, .inr ⟨L.take k, x, L.drop (k + 1), ?_, ?_, HN.out, HE.out⟩, bnext HB1.out (bnext HB.out (below_drewn _ _))⟩
        · rw [List.length_take]; omega
        · obtain ⟨h1, h2⟩ := List.getElem?_eq_some_iff.1 HXX.out
          rw [← h2, List.getElem_cons_drop, List.take_append_drop]
      all_goals
        have hne : ¬ x.m.n = (n1, n2) := fun e => by
          have e1 := congrArg Prod.fst e
          have e2 := congrArg Prod.snd e
          first
            | (rw [e1] at he; simp at he; done)
            | (rw [e2] at he2; simp at he2; done)
        have HN2 : Hid (∀ x ∈ L.take (k + 1), ¬ x.m.n = (n1, n2)) := fun y hy => by
          rw [HTA.out] at hy
          rcases List.mem_append.1 hy with h1 | h1
          · exact HN.out y h1
          · rw [List.mem_singleton.1 h1]; exact hne
        clear hne
        dsimp only at he
        try dsimp only at he2
        try rw [he] at c0
        go_wp2_with fail
        go_quiet (fail)
        go_wp2
        go_roundw
        case rel => exact ⟨k + 1, by go_num, by omega, HN2, bnext HB.out (below_drewn _ _)⟩
        case measure => simp [intOf]; omega
    · have hkI : ¬ (k : Int) < (L.length : Int) := by omega
      go_wp2
      go_ret
      refine ⟨_, rfl, .inl ⟨rfl, fun x hx => HN.out x ?_⟩, bnext HB1.out HB.out⟩
      rw [List.take_of_length_le (by omega)]
      exact hx
end

section
set_option linter.unusedVariables false
set_option linter.unusedSimpArgs false
set_option synthInstance.maxSize 20000
set_option maxHeartbeats 2000000
set_option maxRecDepth 20000
open Go.RowKit Go.Maps

/-- A block that holds one item. -/
def Itb (w : World) (b : Nat) (q : IT) : Prop := Blk w b 76 (ic q)
section
variable {w w' : World} {b : Nat} {q q' : IT}
theorem Itb.put (h : Itb w b q) : Itb (w.setCells b 0 (ic q')) b q' := by
  have := Blk.setCells h 0 (ic q') (by rw [ic_len, ic_len]; omega)
  rw [splice_all _ _ (by rw [ic_len, ic_len])] at this
  exact this
theorem Itb.there (h : Itb w b q) : w.there b 0 10 := Blk.there h 0 10 (by rw [ic_len]; omega)
theorem Itb.below (h : Itb w b q) (hb : Below w.heap.size w w') : Itb w' b q := Blk.below h hb
theorem Itb.load (h : Itb w b q) : (loadVar 76 ⟨b, 0, none⟩).run Tryz.prog w = .ok (iv q) w := run_loadVar_mid w b 0 76 (ic q) _ (Blk.range0 h) Tryz.underlying76 rfl (by rw [ic_len]; exact info41)
theorem Itb.range (h : Itb w b q) : w.rangeAt b 0 (ic q) := Blk.range0 h
theorem below_put {w0 : World} {xs : List Value} (h : Below w0.heap.size w0 w) (hb : w0.heap.size ≤ b) : Below w0.heap.size w0 (w.setCells b 0 xs) := bgrown h hb (grown_setCells b xs 0 w)
end
theorem results20 : Tryz.f51.results = #[.cell 4 76, .tmp 5] := rfl
theorem Itb.ret20 {w : World} {b : Nat} {q : IT} {k : Value} {tmps : Array Value} (h : Itb w b q) (h1 : tmps.getD 4 undef = ptr b) (h2 : tmps.getD 5 undef = k) : (results Tryz.f51 tmps).run Tryz.prog w = .ok (.tuple #[iv q, k]) w := by
  rw [results_cell_tmp results20, h1, h2]
  have e1 : (asAddr (ptr b)).run Tryz.prog w = .ok ⟨b, 0, none⟩ w := rfl
  rw [e1]
  simp only [Result.andThen_ok, h.load]
/-- What Get answers: the item of that stamp, and whether it is there. -/
structure GotT (w : World) (L : List IT) (n : S) (x : IT) (b : Bool) : Prop where
  is : b = (findM (L.map IT.m) n).isSome
  m : x.m = (findM (L.map IT.m) n).getD zM
  rd : Rd w x.v x.m.b
  mem : b = true → x ∈ L ∧ x.m.n = n
  no : b = false → x = zT
theorem GotT.below {w w' : World} {L : List IT} {n : S} {x : IT} {b : Bool} (h : GotT w L n x b) (hb : Below w.heap.size w w') : GotT w' L n x b := ⟨h.is, h.m, h.rd.below hb, h.mem, h.no⟩
def GetAns (w : World) (L : List IT) (n : S) (e : Ending) (w' : World) : Prop := ∃ x b, e = .returned (.tuple #[iv x, .bool b]) ∧ GotT w' L n x b ∧ Below w.heap.size w w'
theorem get20 {w : World} {tb : Nat} {v : Value} {L : List IT} (h : RTr w tb v L) (n : S) :
    Calls Tryz.prog 51 #[ptr tb, sv n] w (GetAns w L n) := by
  have HF : Hid (∀ w', Below w.heap.size w w' → Calls Tryz.prog 68 #[ptr tb, sv n] w' fun e w'' => ∃ i : Int, e = .returned (.int .i64 i) ∧ Hid ((i = -1 ∧ ∀ x ∈ L, ¬ x.m.n = n) ∨ ∃ u x r, i = (u.length : Int) ∧ L = u ++ x :: r ∧ (∀ x ∈ u, ¬ x.m.n = n) ∧ x.m.n = n) ∧ Below w'.heap.size w' w'') := fun w' hb => find44 (h.below hb) n
  obtain ⟨a, c, rfl⟩ := h.row.len
  have hcap := h.row.caps
  have HR : Hid (RTr w tb (.slice a L.length c) L) := h
  clear h
  obtain ⟨n1, n2⟩ := n
  unfold sv at *
  dsimp only at *
  obtain ⟨w1, hw1⟩ : ∃ w1, w1 = (w.alloc (.cells #[.int .i64 n1, .int .i64 n2] 35)).alloc (.cells (ic zT).toArray 76) := ⟨_, rfl⟩
  obtain ⟨B0, hB0⟩ : ∃ B0, B0 = w.heap.size := ⟨_, rfl⟩
  obtain ⟨B1, hB1⟩ : ∃ B1, B1 = w.heap.size + 1 := ⟨_, rfl⟩
  have HB1 : Hid (Below w.heap.size w w1) := by show Below _ _ _; rw [hw1]; exact balloc (balloc (Below.refl _ _) _) _
  have HX : Hid (Blk w1 B0 35 [.int .i64 n1, .int .i64 n2]) := by show Blk _ _ _ _; rw [hw1, hB0]; exact (blk_new w [.int .i64 n1, .int .i64 n2] 35).alloc _
  have HZ : Hid (Itb w1 B1 zT) := by
    show Blk _ _ _ _
    rw [hw1, hB1]
    have := blk_new (w.alloc (.cells #[.int .i64 n1, .int .i64 n2] 35)) (ic zT) 76
    simpa using this
  have HBB : Hid (w.heap.size ≤ B1) := by show _ ≤ _; omega
  have d0 := HX.out.cell 0 _ rfl
  have d1 := HX.out.cell 1 _ rfl
  go_enter Tryz.func51, Tryz.ntmps51
  go_upto_region 1 with fail
  rw [show (#[Value.int IntKind.i64 0, Value.int IntKind.i64 0, Value.int IntKind.i64 0, Value.int IntKind.i64 0, Value.string ⟨#[]⟩, Value.bool false, Value.bool false, Value.slice none 0 0, Value.int IntKind.i64 0, Value.int IntKind.i64 0] : Array Value) = (ic zT).toArray from rfl]
  rw [← hw1, ← hB1]
  rw [← hB0]
  clear hw1 hB0 hB1
  go_upto_region 2 with (go_at_call 68; go_must (refine (HF.out _ HB1.out).mono ?_; rintro r w2 ⟨i, rfl, HI, hb2⟩; have HB2 : Hid (Below w1.heap.size w1 w2) := hb2; clear hb2))
  have HZ2 : Hid (Itb w2 B1 zT) := HZ.out.below HB2.out
  have HBz : Hid (Below w.heap.size w w2) := bnext HB1.out HB2.out
  have HR2 : Hid (RTr w2 tb (.slice a L.length c) L) := HR.out.below HBz.out
  clear d0 d1 HX HZ HF
  rcases HI.out with ⟨rfl, hno⟩ | ⟨u, x, r, rfl, hL, hu, hx⟩
  · have HNO : Hid (∀ x ∈ L, ¬ x.m.n = (n1, n2)) := hno
    have HT2 : Hid (w2.there B1 0 10) := HZ2.out.there
    have HP : Hid (Itb (w2.setCells B1 0 (ic zT)) B1 zT) := HZ2.out.put
    have HBp : Hid (Below w.heap.size w (w2.setCells B1 0 (ic zT))) := below_put HBz.out HBB.out
    clear hno HI
    go_wp2_with (refine wpList_skipw rfl (exec_store41 (q := zT) (.tmp 4) (.tmp 12) rfl rfl rfl HT2.out) ?_)
    refine bodyPost_ret (v := .tuple #[iv zT, .bool false]) (HP.out.ret20 rfl rfl) rfl ⟨zT, false, rfl, ?_, HBp.out⟩
    have hf : findM (L.map IT.m) (n1, n2) = none := findM_none fun y hy => by
      obtain ⟨z, hz, rfl⟩ := List.mem_map.1 hy
      exact HNO.out z hz
    exact ⟨by rw [hf]; rfl, by rw [hf]; rfl, rd_nil _, fun h => (by cases h), fun _ => rfl⟩
  · have HL : Hid (L = u ++ x :: r) := hL
    have HU : Hid (∀ x ∈ u, ¬ x.m.n = (n1, n2)) := hu
    have HN : Hid (x.m.n = (n1, n2)) := hx
    have hlt : (u.length : Int) < (L.length : Int) := by rw [hL]; simp; omega
    have hk : u.length < L.length := by omega
    have hn0 : ¬ (u.length : Int) < 0 := by omega
    have hg : L[u.length]? = some x := by rw [hL]; simp
    have t0 := HR2.out.blk.cell 0 _ rfl
    obtain ⟨b1, o1, rfl, hc⟩ := HR2.out.row.at ic_len hg
    have HC : Hid (w2.rangeAt b1 (o1 + u.length * 10) (ic x)) := hc
    have HT2 : Hid (w2.there B1 0 10) := HZ2.out.there
    have HP : Hid (Itb (w2.setCells B1 0 (ic x)) B1 x) := HZ2.out.put
    have HBp : Hid (Below w.heap.size w (w2.setCells B1 0 (ic x))) := below_put HBz.out HBB.out
    have HD : Hid (Rd (w2.setCells B1 0 (ic x)) x.v x.m.b) := by
      have h1 := HR2.out.rd x (by rw [hL]; simp)
      show Rd _ _ _
      by_cases hp : 0 < x.m.b.length
      · refine h1.kept (grown_setCells B1 _ 0 w2) fun k hk hv => ?_
        cases hk
        have hx2 : x ∈ L := by rw [hL]; simp
        have h2 : Rd w x.v x.m.b := HR.out.rd x hx2
        obtain ⟨_, a', cap, e, _, _, _, h4⟩ := h2
        obtain ⟨b, off, rfl, hc⟩ := h4 hp
        rw [e] at hv
        have e1 : b = B1 := by simpa [Value.ownBlock] using hv
        have h5 := World.block_lt_of_cell? w _ (hc 0 hp)
        have h6 := HBB.out
        dsimp only at h5
        omega
      · obtain ⟨ho, a, cap, e, h1, h2, h3, h4⟩ := h1
        exact ⟨ho, a, cap, e, h1, h2, h3, fun h => absurd h hp⟩
    clear hL hu hx hg hc HI
    go_wp2_with (first
      | (refine wpList_okw rfl (exec_load41 (q := x) (.tmp 18) rfl rfl HC.out) ?_)
      | (refine wpList_skipw rfl (exec_store41 (q := x) (.tmp 4) (.tmp 19) rfl rfl rfl HT2.out) ?_))
    refine bodyPost_ret (v := .tuple #[iv x, .bool true]) (HP.out.ret20 rfl rfl) rfl ⟨x, true, rfl, ?_, HBp.out⟩
    have hf : findM (L.map IT.m) (n1, n2) = some x.m := by
      rw [HL.out, List.map_append, List.map_cons]
      refine findM_some (fun y hy => ?_) HN.out
      obtain ⟨z, hz, rfl⟩ := List.mem_map.1 hy
      exact HU.out z hz
    exact ⟨by rw [hf]; rfl, by rw [hf]; rfl, HD.out, fun _ => ⟨by rw [HL.out]; simp, HN.out⟩, fun h => (by cases h)⟩
end
end Go.Proofs.YthnjbjlhfohpfaaGreat
