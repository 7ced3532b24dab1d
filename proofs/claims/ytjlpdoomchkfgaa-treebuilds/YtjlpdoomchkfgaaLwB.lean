/-
  The reference's Build.
  Trees that are alike, by the program.
  Slices of integers that come in.
  The tree of any order: the law walked.
-/
import Derived.Test.YtjlpdoomchkfgaaRfD
import Derived.Test.YtjlpdoomchkfgaaTsG
import Derived.Test.YtjlpdoomchkfgaaTsF
import Derived.Test.YtjlpdoomchkfgaaTsI
import Derived.Test.YtjlpdoomchkfgaaArgO
import Derived.Deep.Slices
import Derived.Test.YtjlpdoomchkfgaaLwP
namespace Go.Proofs.Ytjlpdoomchkfgaa
section
set_option linter.unusedVariables false
set_option linter.unusedSimpArgs false
set_option synthInstance.maxSize 20000
set_option maxHeartbeats 2000000
set_option maxRecDepth 20000
open Go.RowKit Go.Maps

theorem FirstOf.len {O l : List OpT} (h : FirstOf O l) : O.length ≤ l.length := nodup_le (h.str.imp fun {x y} hxy e => by subst e; exact ltP_irrefl _ hxy) fun x hx => h.mem hx
/-- A row of operations does not lie in a block of one slice. -/
theorem rowO_past {w w' : World} {rb : Nat} {v : Value} {l : List OpT} {a : Option Addr} {n c : Nat} (hr : RowF oc w v l) (hi : Blk w rb 32 [.slice a n c]) (hg : w.grownBy w' (some rb)) : RowF oc w' v l := by
  have hr0 := hr
  obtain ⟨a', cap, rfl, h1, h2, h3, h4⟩ := hr0
  cases l with
  | nil => exact ⟨a', cap, rfl, h1, h2, h3, fun h => by simp at h⟩
  | cons x l =>
    refine hr.blocks fun j hj hlt => ?_
    obtain ⟨b, off, rfl, hc⟩ := h4 (by simp)
    have e1 : b = j := by simpa [Value.ownBlock] using hj
    subst e1
    refine hg.block _ hlt fun e => ?_
    have e2 := Option.some.inj e
    subst e2
    have := hc 0 (.int .i64 x.k) (by simp [flat, oc])
    have hb : w.heap[b]? = some (.cells #[.slice a n c] 32 (0, 0)) := hi
    simp [World.cell?, hb] at this
    have hm := List.mem_of_getElem? this
    simp at hm
def RBuildAns (w : World) (l : List OpT) (e : Ending) (w' : World) : Prop := ∃ rb v L O, e = .returned (ptr rb) ∧ RTr w' rb v L ∧ FirstOf O l ∧ L.map IT.m = buildM [] O ∧ w.heap.size ≤ rb ∧ Below w.heap.size w w'
set_option maxHeartbeats 8000000 in
theorem build28 {w : World} {v : Value} {l : List OpT} (hv : RowF oc w v l) (hl : l.length ≤ 60) (hq : ∀ q ∈ l, Rd w q.v q.b) : Calls Try.prog 28 #[v] w (RBuildAns w l) := by
  obtain ⟨w1, hw1⟩ : ∃ w1, w1 = w.alloc (.cells #[.slice none 0 0] 32) := ⟨_, rfl⟩
  obtain ⟨rb, hrb⟩ : ∃ rb, rb = w.heap.size := ⟨_, rfl⟩
  have HB1 : Hid (Below w.heap.size w w1) := by show Below _ _ _; rw [hw1]; exact balloc (Below.refl _ _) _
  have HR1 : Hid (RTr w1 rb (.slice none 0 0) []) := ⟨by rw [hw1, hrb]; exact blk_new w [.slice none 0 0] 32, (ownT_nil 0 w1).row, fun x hx => by cases hx⟩
  have HRB : Hid (w.heap.size ≤ rb) := by show _ ≤ _; omega
  have HSo : Hid (Calls Try.prog 52 #[v] w1 fun e w' => ∃ v' O, e = .returned v' ∧ FirstOf O l ∧ RowF oc w' v' O ∧ Below w1.heap.size w1 w') := rsort22 (hv.below HB1.out) (by omega)
  have HQ : Hid (∀ q ∈ l, Rd w q.v q.b) := hq
  have HL : Hid (l.length ≤ 60) := hl
  clear hv hl hq
  go_enter Try.func28, Try.ntmps28
  go_upto_region 2 with fail
  rw [← hw1, ← hrb]
  clear hw1 hrb
  go_wp2_with (go_at_call 52; go_must (refine HSo.out.mono ?_; rintro e w2 ⟨v', O, rfl, hF, hrow, hb2⟩; have HF : Hid (FirstOf O l) := hF; have HRow2 : Hid (RowF oc w2 v' O) := hrow; have HB2 : Hid (Below w1.heap.size w1 w2) := hb2; clear hb2 hF hrow; obtain ⟨a', c', rfl⟩ := HRow2.out.len; have hcap := HRow2.out.caps))
  have hO60 : O.length ≤ 60 := by have := HF.out.len; have := HL.out; omega
  obtain ⟨N, hN⟩ : ∃ N, N = O.length := ⟨_, rfl⟩
  have HN : Hid (N = O.length) := hN
  rw [← hN] at hcap hO60 HRow2 ⊢
  have HN60 : Hid (N ≤ 60) := hO60
  clear hN HSo
  go_loopw [5] (fun i wr => ∃ (k : Nat) (v2 : Value) (L : List IT), i = .int .i64 (k : Int) ∧ k ≤ N ∧ Hid (RTr wr rb v2 L) ∧ Hid (L.map IT.m = buildM [] (O.take k)) ∧ Hid (RowF oc wr (.slice a' N c') O) ∧ Hid (∀ q ∈ O, Rd wr q.v q.b) ∧ Hid (Below w.heap.size w wr)) (fun i _ => N - (intOf i).toNat)
  case atStart => exact ⟨0, _, [], rfl, Nat.zero_le _, HR1.out.below HB2.out, rfl, HRow2, fun q hq => (HQ.out q (HF.out.mem hq)).below (bnext HB1.out HB2.out), bnext HB1.out HB2.out⟩
  case round =>
    obtain ⟨k, v2, L, rfl, hk, HR, HM, HRow, HRd, HB⟩ := hrel
    clear HR1 HRow2
    rename World => wr
    by_cases hlt : k < N
    · have hkI : (k : Int) < (N : Int) := by omega
      obtain ⟨q, hq⟩ : ∃ q, O[k]? = some q := ⟨_, List.getElem?_eq_getElem (by have := HN.out; omega)⟩
      have HTA : Hid (O.take (k + 1) = O.take k ++ [q]) := take_more' hq
      have HMem : Hid (q ∈ O) := List.mem_of_getElem? hq
      obtain ⟨b1, o1, rfl, hc⟩ := HRow.out.at oc_len hq
      have HC : Hid (wr.rangeAt b1 (o1 + k * 10) (oc q)) := hc
      obtain ⟨a2, c2, rfl⟩ := HR.out.row.len
      have hbl := buildM_len (O.take k) []
      have h1 := congrArg List.length HM.out
      rw [List.length_map] at h1
      rw [List.length_take, List.length_nil] at hbl
      have hgd : Gd (L.map IT.m) := by
        rw [HM.out]
        refine Gd.build gd_nil ?_
        rw [List.length_take, List.length_nil]
        omega
      have HDo : Hid (Calls Try.prog 12 #[ptr rb, ov q] wr fun e w' => ∃ x b k, e = .returned (.tuple #[iv x, .bool b, .int .i64 k]) ∧ RDo wr rb L q x b k w') := do12 HR.out (by omega) hgd.srt q (HRd.out q HMem.out)
      clear hq hc hbl h1 hgd
      have tk2 : Hid True := trivial
      go_wp2_with (first
        | (clear tk2; refine wpList_okw rfl (exec_load40 (q := q) (.tmp 19) rfl rfl HC.out) ?_)
        | (go_at_call 12; go_must (refine HDo.out.mono ?_; rintro e w5 ⟨x, b, kk, rfl, hans⟩; have HA : Hid (RDo wr rb L q x b kk w5) := hans; clear hans)))
      obtain ⟨v', L', hr5, hm5, hg5⟩ := HA.out.tree
      have hb5 := bgrown HB.out HRB.out hg5
      go_roundw
      case rel => exact ⟨k + 1, v', L', by go_num, by omega, hr5, by show _ = _; rw [hm5, HTA.out, build_snoc, HM.out], rowO_past HRow.out HR.out.blk hg5, fun q hq => rd_past (HRd.out q hq) HR.out.blk (fun n => by simp) hg5, hb5⟩
      case measure => simp [intOf]; omega
    · have hkI : ¬ (k : Int) < (N : Int) := by omega
      have HTk : Hid (O.take k = O) := List.take_of_length_le (by have := HN.out; omega)
      go_wp2
      go_ret
      exact ⟨rb, v2, L, O, rfl, HR.out, HF.out, by rw [HM.out, HTk.out], HRB.out, HB.out⟩
end

section
set_option linter.unusedVariables false
set_option linter.unusedSimpArgs false
set_option synthInstance.maxSize 20000
set_option maxHeartbeats 2000000
set_option maxRecDepth 20000
open Go.RowKit Go.Maps

theorem alike54 {x y : IT} {w : World} (hx : Rd w x.v x.m.b) (hy : Rd w y.v y.m.b) (e : x.m = y.m) : Calls Try.prog 54 #[iv x, iv y] w fun e w' => e = .returned (.bool true) ∧ Below w.heap.size w w' := by
  have HE : Hid (∀ w', Below w.heap.size w w' → Calls Try.prog 72 #[x.v, y.v] w' fun e w'' => e = .returned (.bool true) ∧ w'' = w') := fun w' h => by
    have := equal_any x.v y.v x.m.b y.m.b w' (hx.below h) (hy.below h)
    rw [e, decide_eq_true (show y.m.b = y.m.b from rfl)] at this
    exact this
  clear hx hy
  obtain ⟨⟨⟨n1, n2⟩, ⟨p1, p2⟩, s, d, g, ⟨y1, y2⟩, b⟩, a, vn, vc⟩ := x
  obtain ⟨m, a', vn', vc'⟩ := y
  dsimp only at e
  subst e
  unfold IT.v at HE
  unfold iv ic
  dsimp only at HE ⊢
  have HB0 : Hid (Below w.heap.size w ((w.alloc (.cells #[.int .i64 n1, .int .i64 n2, .int .i64 p1, .int .i64 p2, .string s, .bool d, .bool g, .slice a vn vc, .int .i64 y1, .int .i64 y2] 35)).alloc (.cells #[.int .i64 n1, .int .i64 n2, .int .i64 p1, .int .i64 p2, .string s, .bool d, .bool g, .slice a' vn' vc', .int .i64 y1, .int .i64 y2] 35))) := (show Below _ _ _ from balloc (balloc (Below.refl _ _) _) _)
  go_enter Try.func54, Try.ntmps54
  go_wp2_with (go_at_call 72; go_must (refine (HE.out _ HB0.out).mono ?_; rintro e w2 ⟨rfl, hw⟩; replace hw := hw.symm; subst hw))
  go_ret
  exact ⟨rfl, HB0.out⟩
section
variable {w : World} {ta tb : Nat} {mo mo2 : Option Nat} {A B : List IT}
theorem PTr.lenrun (h : PTr w tb mo A) (ty : TypeId) : (Builtin.len_ #[68] ty #[.map mo]).run Try.prog w = .ok (.int .i64 (A.length : Int)) w := by
  rcases h.mp with ⟨rfl, rfl⟩ | ⟨mb, rfl, hm⟩
  · simp [Builtin.len_, run_underlying under68, goInt]
  · exact hm.len ty
theorem eqf53n (hA : PTr w ta mo A) (hB : PTr w tb mo2 B) (h : A.length ≠ B.length) : Calls Try.prog 53 #[.map mo, .map mo2, .func (.func 54) #[] #[]] w fun e w' => e = .returned (.bool false) ∧ w' = w := by
  have l1 := fun ty => hA.lenrun ty
  have l2 := fun ty => hB.lenrun ty
  have hne : ((A.length : Int) != (B.length : Int)) = true := by
    simp only [bne_iff_ne, ne_eq]
    omega
  clear hA hB h
  go_enter Try.func53, Try.ntmps53
  go_wp2
  go_ret
  exact ⟨rfl, rfl⟩
set_option maxHeartbeats 8000000 in
theorem eqf53y (hA : PTr w ta mo A) (hB : PTr w tb mo2 B) (h : A.map IT.m = B.map IT.m) : Calls Try.prog 53 #[.map mo, .map mo2, .func (.func 54) #[] #[]] w fun e w' => e = .returned (.bool true) ∧ Below w.heap.size w w' := by
  have HA : Hid (PTr w ta mo A) := hA
  have HBt : Hid (PTr w tb mo2 B) := hB
  have HE : Hid (A.map IT.m = B.map IT.m) := h
  have l1 := fun ty => hA.lenrun ty
  have l2 := fun ty => hB.lenrun ty
  have hlen : A.length = B.length := by have := congrArg List.length h; simpa using this
  rw [← hlen] at l2
  have hne : ((A.length : Int) != (A.length : Int)) = false := by simp
  obtain ⟨w1, hrun, hit, hg1, hs1⟩ := hA.range
  have HRUN : Hid ((Instr.range 68 (.map mo)).run Try.prog w = .ok (.pointer (some ⟨w.heap.size, 0, none⟩)) w1) := hrun
  have HIT1 : Hid (ItT w1 mo w.heap.size A []) := hit
  have HB1 : Hid (Below w.heap.size w w1) := grown_below hg1
  obtain ⟨r, hr⟩ : ∃ r, r = w.heap.size := ⟨_, rfl⟩
  have HR : Hid (w.heap.size ≤ r) := by show _ ≤ _; omega
  rw [← hr] at HIT1 HRUN
  clear hA hB h hlen hrun hit hg1 hs1
  go_enter Try.func53, Try.ntmps53
  go_wp2_with (refine wpList_okw rfl (exec_range (mo := mo) (.tmp 16) rfl rfl HRUN.out) ?_)
  go_frame
  clear hr HRUN l1 l2 hne
  go_loopw [6] (fun v wr => ∃ done, Hid (ItT wr mo r A done) ∧ Hid (Below w.heap.size w wr)) (fun _ wr => itLeft wr mo r)
  case atStart => exact ⟨[], HIT1, HB1⟩
  case round =>
    obtain ⟨done, HIT, HB⟩ := hrel
    clear HIT1 HB1
    rename World => wr
    have hokL := HA.out.okL
    have hsrt := HA.out.srt
    rcases HIT.out.next hokL hsrt 0 with ⟨hall, hrun⟩ | ⟨x, w2, hx, hnx, hrun, hit2, hlt, hg2, hsz, hen⟩
    · have HRUN : Hid ((Instr.next (.pointer (some ⟨r, 0, none⟩)) false 0).run Try.prog wr = .ok (.tuple #[.bool false]) wr) := hrun
      clear hokL hsrt hall hrun
      have tk1 : Hid True := trivial
      go_wp2_with (clear tk1; refine wpList_okw rfl (exec_next (.tmp 17) rfl rfl HRUN.out) ?_)
      go_ret
      exact ⟨rfl, HB.out⟩
    · have HRUN : Hid ((Instr.next (.pointer (some ⟨r, 0, none⟩)) false 0).run Try.prog wr = .ok (.tuple #[.bool true, sv x.m.n, iv x]) w2) := hrun
      have HEN : Hid ((Instr.entry (.pointer (some ⟨r, 0, none⟩))).run Try.prog w2 = .ok (.tuple #[sv x.m.n, iv x]) w2) := hen
      have HIT2 : Hid (ItT w2 mo r A (done ++ [x])) := hit2
      have HX : Hid (x ∈ A) := hx
      have HLT : Hid (itLeft w2 mo r < itLeft wr mo r) := hlt
      have HB2 : Hid (Below w.heap.size w w2) := bgrown HB.out HR.out hg2
      have hno : SOk x.m.n := (HA.out.ok x hx).1
      obtain ⟨y, b, hlook, hgot⟩ := HBt.out.look hno
      have hmem : x.m ∈ B.map IT.m := by rw [← HE.out]; exact List.mem_map.2 ⟨x, hx, rfl⟩
      have hf : findM (B.map IT.m) x.m.n = some x.m := findM_of HBt.out.srt hmem
      have hb : b = true := by have := hgot.is; rw [hf] at this; exact this
      subst hb
      have HYM : Hid (x.m = y.m) := by show _ = _; have := hgot.m; rw [hf] at this; exact this.symm
      have HRy : Hid (Rd w y.v y.m.b) := hgot.rd
      have HLook : Hid (∀ w', Below w.heap.size w w' → (Instr.lookup 68 (.map mo2) (sv x.m.n) true).run Try.prog w' = .ok (.tuple #[iv y, .bool true]) w') := hlook
      clear hokL hsrt hx hnx hrun hit2 hlt hg2 hsz hen HIT HB hno hlook hgot hmem hf
      obtain ⟨w3, hw3⟩ : ∃ w3, w3 = w2.alloc (.cells (sc (0, 0)).toArray 24) := ⟨_, rfl⟩
      obtain ⟨B3, hB3⟩ : ∃ B3, B3 = w2.heap.size := ⟨_, rfl⟩
      obtain ⟨w4, hw4⟩ : ∃ w4, w4 = w3.alloc (.cells (ic zT).toArray 35) := ⟨_, rfl⟩
      obtain ⟨B4, hB4⟩ : ∃ B4, B4 = w3.heap.size := ⟨_, rfl⟩
      obtain ⟨w5, hw5⟩ : ∃ w5, w5 = w4.setCells B3 0 (sc x.m.n) := ⟨_, rfl⟩
      obtain ⟨w6, hw6⟩ : ∃ w6, w6 = w5.setCells B4 0 (ic x) := ⟨_, rfl⟩
      have a3 : Blk w3 B3 24 (sc (0, 0)) := by rw [hw3, hB3]; exact blk_new w2 _ 24
      have a4 : Blk w4 B3 24 (sc (0, 0)) := by rw [hw4]; exact a3.alloc _
      have b4 : Itp w4 B4 zT := by rw [hw4, hB4]; exact itp_new w3 zT
      have hne : B3 ≠ B4 := by have := a3.lt; omega
      have a5 : Blk w5 B3 24 (sc x.m.n) := by rw [hw5]; exact Blk.put2 a4
      have b5 : Itp w5 B4 zT := by rw [hw5]; exact Blk.past b4 (grown_setCells _ _ _ _) hne.symm
      have a6 : Blk w6 B3 24 (sc x.m.n) := by rw [hw6]; exact a5.past (grown_setCells _ _ _ _) hne
      have b6 : Itp w6 B4 x := by rw [hw6]; exact Itp.put b5 x
      have c3 : Below w2.heap.size w2 w3 := by rw [hw3]; exact balloc (Below.refl _ _) _
      have c4 : Below w2.heap.size w2 w4 := by rw [hw4]; exact balloc c3 _
      have c5 : Below w2.heap.size w2 w5 := by rw [hw5]; exact below_put c4 (by omega)
      have c6 : Below w2.heap.size w2 w6 := by rw [hw6]; exact below_put c5 (by have := c3.size; omega)
      have HT4 : Hid (w4.there B3 0 2) := a4.there 0 2 (by simp [sc])
      have HT5 : Hid (w5.there B4 0 10) := Itp.there b5
      have HA6 : Hid (w6.rangeAt B3 0 (sc x.m.n)) := a6.range0
      have HI6 : Hid (Itp w6 B4 x) := b6
      have HB6 : Hid (Below w2.heap.size w2 w6) := c6
      have HW3 : Hid (w3 = w2.alloc (.cells (sc (0, 0)).toArray 24)) := hw3
      have HB3 : Hid (B3 = w2.heap.size) := hB3
      have HW4 : Hid (w4 = w3.alloc (.cells (ic zT).toArray 35)) := hw4
      have HB4 : Hid (B4 = w3.heap.size) := hB4
      have HW5 : Hid (w5 = w4.setCells B3 0 (sc x.m.n)) := hw5
      have HW6 : Hid (w6 = w5.setCells B4 0 (ic x)) := hw6
      have HBx : Hid (Below w.heap.size w w6) := bnext HB2.out c6
      clear hw3 hB3 hw4 hB4 hw5 hw6 a3 a4 b4 hne a5 b5 a6 b6 c3 c4 c5 c6
      obtain ⟨w7, hw7⟩ : ∃ w7, w7 = w6.alloc (.cells (ic zT).toArray 35) := ⟨_, rfl⟩
      obtain ⟨g, hg⟩ : ∃ g, g = w6.heap.size := ⟨_, rfl⟩
      obtain ⟨w8, hw8⟩ : ∃ w8, w8 = w7.setCells g 0 (ic y) := ⟨_, rfl⟩
      obtain ⟨j1, j2, j3, j4⟩ := item_putp HBx.out hw7 hg hw8
      have HT7 : Hid (w7.there g 0 10) := (show _ from by rw [hw7, hg]; exact (itp_new w6 zT).there)
      have HI8 : Hid (Itp w8 g y) := j1
      have HB8 : Hid (Below w.heap.size w w8) := j2
      have HB68 : Hid (Below w6.heap.size w6 w8) := j3
      have HW7 : Hid (w7 = w6.alloc (.cells (ic zT).toArray 35)) := hw7
      have HGG : Hid (g = w6.heap.size) := hg
      have HW8 : Hid (w8 = w7.setCells g 0 (ic y)) := hw8
      have HRx8 : Hid (w8.rangeAt B4 0 (ic x)) := Itp.range (HI6.out.below j3)
      have HRy8 : Hid (w8.rangeAt g 0 (ic y)) := j1.range
      have HAl : Hid (Calls Try.prog 54 #[iv x, iv y] w8 fun e w' => e = .returned (.bool true) ∧ Below w8.heap.size w8 w') := alike54 ((HA.out.rd x HX.out).below j2) (HRy.out.below j2) HYM.out
      clear j1 j2 j3 j4 hw7 hg hw8
      have tk1 : Hid True := trivial
      have tk2 : Hid True := trivial
      have tk3 : Hid True := trivial
      have tk4 : Hid True := trivial
      have tk5 : Hid True := trivial
      have tk6 : Hid True := trivial
      have tk7 : Hid True := trivial
      have tk8 : Hid True := trivial
      have tk9 : Hid True := trivial
      have tka : Hid True := trivial
      have tkb : Hid True := trivial
      have tkc : Hid True := trivial
      go_wp2_with (first
        | (clear tk1; refine wpList_okw rfl (exec_next (.tmp 17) rfl rfl HRUN.out) ?_)
        | (clear tk2; refine wpList_okw rfl (exec_entry (.tmp 17) rfl rfl HEN.out) ?_)
        | (clear tk3; refine wpList_okw rfl (exec_alloc24 rfl) ?_; rw [← HW3.out, ← HB3.out])
        | (clear tk4; refine wpList_okw rfl (exec_alloc35 rfl) ?_; rw [← HW4.out, ← HB4.out])
        | (clear tk5; refine wpList_skipw rfl (exec_store24n (n := x.m.n) (.tmp 7) (.tmp 21) rfl rfl rfl HT4.out) ?_; rw [← HW5.out])
        | (clear tk6; refine wpList_skipw rfl (exec_store35 (q := x) (.tmp 8) (.tmp 22) rfl rfl rfl HT5.out) ?_; rw [← HW6.out])
        | (clear tk7; refine wpList_okw rfl (exec_load24n (n := x.m.n) (.tmp 7) rfl rfl HA6.out) ?_)
        | (clear tk8; refine wpList_okw rfl (exec_look (n := x.m.n) (.tmp 24) (.tmp 25) rfl rfl rfl (HLook.out _ HBx.out)) ?_)
        | (clear tk9; refine wpList_okw rfl (exec_alloc35 rfl) ?_; rw [← HW7.out, ← HGG.out])
        | (clear tka; refine wpList_skipw rfl (exec_store35 (q := y) (.tmp 9) (.tmp 27) rfl rfl rfl HT7.out) ?_; rw [← HW8.out])
        | (clear tkb; refine wpList_okw rfl (exec_load35 (q := x) (.tmp 8) rfl rfl HRx8.out) ?_)
        | (clear tkc; refine wpList_okw rfl (exec_load35 (q := y) (.tmp 9) rfl rfl HRy8.out) ?_)
        | (go_at_call 54; go_must (refine HAl.out.mono ?_; rintro e w9 ⟨rfl, hb9⟩; have HB9 : Hid (Below w8.heap.size w8 w9) := hb9; clear hb9)))
      have hbz := bnext HB6.out (bnext HB68.out HB9.out)
      go_roundw
      case rel => exact ⟨done ++ [x], (HIT2.out.below hbz).1, bnext HB2.out hbz⟩
      case measure => rw [(HIT2.out.below hbz).2]; exact HLT.out
theorem same29 (hA : PTr w ta mo A) (hB : PTr w tb mo2 B) (R : Bool) (hf : ∀ w', Below w.heap.size w w' → Calls Try.prog 53 #[.map mo, .map mo2, .func (.func 54) #[] #[]] w' fun e w'' => e = .returned (.bool R) ∧ Below w'.heap.size w' w'') : Calls Try.prog 29 #[ptr ta, ptr tb] w fun e w' => e = .returned (.bool R) ∧ Below w.heap.size w w' := by
  have HF : Hid (∀ w', Below w.heap.size w w' → Calls Try.prog 53 #[.map mo, .map mo2, .func (.func 54) #[] #[]] w' fun e w'' => e = .returned (.bool R) ∧ Below w'.heap.size w' w'') := hf
  have ca := fun z : WIn (fun w' => Below w.heap.size w w') => (hA.below z.ok).blk.cell 0 _ rfl
  have cb := fun z : WIn (fun w' => Below w.heap.size w w') => (hB.below z.ok).blk.cell 0 _ rfl
  clear hA hB hf
  go_enter Try.func29, Try.ntmps29
  go_upto_region 3 with fail
  have ne : Nonempty (WIn (fun w' => Below w.heap.size w w')) := ⟨⟨w.drew, below_drewn w 1⟩⟩
  refine wp_region_ord (C := fun w' => ∃ z : WIn (fun w' => Below w.heap.size w w'), w' = z.w) [(false, 0), (false, 1), (false, 2), (false, 3), (false, 4), (false, 5), (false, 6), (false, 7), (true, 8), (false, 9)] (by kernel_rfl) (by kernel_rfl) ⟨⟨w.drew, below_drewn w 1⟩, rfl⟩ ?_
  iterate 8 (refine ord_still rfl rfl ?_; go_big_quiet_step (fail); refine wpQuiet_nil ?_)
  refine ord_mem rfl rfl ?_
  go_simp
  refine (HF.out _ (below_drewn w 1)).mono ?_
  rintro r w2 ⟨rfl, hb⟩
  have HB2 : Hid (Below w.heap.size w w2) := bnext (below_drewn w 1) hb
  clear hb
  refine ⟨⟨⟨w2, HB2.out⟩, rfl⟩, ?_⟩
  go_simp
  iterate 1 (refine ord_still rfl rfl ?_; go_big_quiet_step (fail); refine wpQuiet_nil ?_)
  refine ord_end ?_
  clear ne
  clear ca cb
  go_wp2
  go_ret
  exact ⟨rfl, HB2.out⟩
theorem same29y (hA : PTr w ta mo A) (hB : PTr w tb mo2 B) (h : A.map IT.m = B.map IT.m) : Calls Try.prog 29 #[ptr ta, ptr tb] w fun e w' => e = .returned (.bool true) ∧ Below w.heap.size w w' :=
  same29 hA hB true fun w' hb => eqf53y (hA.below hb) (hB.below hb) h
theorem same29n (hA : PTr w ta mo A) (hB : PTr w tb mo2 B) (h : A.length ≠ B.length) : Calls Try.prog 29 #[ptr ta, ptr tb] w fun e w' => e = .returned (.bool false) ∧ Below w.heap.size w w' :=
  same29 hA hB false fun w' hb => (eqf53n (hA.below hb) (hB.below hb) h).mono (by rintro e w'' ⟨rfl, rfl⟩; exact ⟨rfl, Below.refl _ _⟩)
end
end

section
set_option linter.unusedVariables false
set_option linter.unusedSimpArgs false
set_option synthInstance.maxSize 20000
set_option maxHeartbeats 2000000
set_option maxRecDepth 20000
open Go.RowKit Go.Maps

section
open Go.ChangeShapes Go.WideShapes Go.ChangeAt Go.RowKit
/-- A slice of integers that reads as l. -/
def RdI (w : World) (v : Value) (l : List Int) : Prop := (∀ x ∈ l, I64 x) ∧ ∃ (a : Option Addr) (cap : Nat), v = .slice a l.length cap ∧ l.length ≤ cap ∧ cap ≤ maxLen ∧ (0 < l.length → ∃ b off, a = some ⟨b, off, none⟩ ∧ ∀ j c, l[j]? = some c → w.cell? ⟨b, off + j, none⟩ = some (.int .i64 c))
set_option maxRecDepth 100000 in
theorem ints_of {H : Type} {enc : TypeId × Value → H} {w : World} {r : Reach} {b0 base : Nat} {held : Bool} {v : Value} {d : DataW H} {p : List MemPlace}
    (hv0 : Value.okWide Try.prog w r b0 60 v) (h : DataW.Trod enc Try.prog w base (fun _ => true) held 60 v d p) : ∃ l, RdI w v l := by
  obtain ⟨a, len, cap, rfl⟩ := okWide_slice Try.underlying60 hv0
  obtain ⟨fuel, hf⟩ := h
  rcases Deep.open_slice Try.underlying60 hf with ⟨hcs, _⟩ | ⟨y, l, c, m, n, D, Pl, hcs, _, hl, hm, hmm, _, hx⟩
  · simp [Value.cells] at hcs
    obtain ⟨rfl, rfl, rfl⟩ := hcs
    exact ⟨[], (fun x hx => by cases hx), none, 0, rfl, Nat.le_refl _, Nat.zero_le _, fun h => by simp at h⟩
  · simp [Value.cells] at hcs
    obtain ⟨rfl, rfl, rfl⟩ := hcs
    have hlm : len ≤ m := by rw [hmm]; split <;> omega
    have ce : Try.prog.cellsOf 3 = 1 := by kernel_rfl
    have each : ∀ i, i < len → ∃ z : Int, w.cell? (y.add i) = some (.int .i64 z) ∧ I64 z := by
      intro i hi
      obtain ⟨cs', h1, h2⟩ := hx i (by omega)
      rw [ce] at h1
      obtain ⟨_, hlen, hcell⟩ := World.cells?_some h1
      match cs', hlen with
      | [c0], _ =>
        obtain ⟨z, q0, _, wz⟩ := DataW.trod_int Try.underlying3 h2
        simp at q0
        subst q0
        have e1 := hcell 0 (by omega)
        rw [Deep.add_add] at e1
        exact ⟨z, by simpa using e1, wf_i64 wz⟩
    obtain ⟨z, hz'⟩ := Deep.choose_lt each
    refine ⟨(List.range len).map z, fun x hx => ?_, some y, cap, by simp, by simpa using hl, hm, fun hp => ?_⟩
    · obtain ⟨i, hi, rfl⟩ := List.mem_map.1 hx
      exact (hz' i (List.mem_range.1 hi)).2
    simp at hp
    obtain ⟨b, off, spot⟩ := y
    have hspot : spot = none := by simpa [Addr.add] using World.cell?_spot (hz' 0 hp).1
    subst hspot
    refine ⟨b, off, rfl, fun j c hj => ?_⟩
    have hlt : j < len := by have := (List.getElem?_eq_some_iff.1 hj).1; simpa using this
    simp [hlt] at hj
    subst hj
    have h2 := (hz' j hlt).1
    rw [Addr.add_lit] at h2
    exact h2
theorem RdI.len {w : World} {v : Value} {l : List Int} (h : RdI w v l) : ∃ a cap, v = .slice a l.length cap := ⟨h.2.choose, h.2.choose_spec.choose, h.2.choose_spec.choose_spec.1⟩
theorem RdI.at {w w' : World} {a : Option Addr} {n cap : Nat} {l : List Int} (h : RdI w (.slice a n cap) l) (hb : Below w.heap.size w w') {k : Nat} {t : Int} (hk : l[k]? = some t) : ∃ b off, a = some ⟨b, off, none⟩ ∧ w'.cell? ⟨b, off + k, none⟩ = some (.int .i64 t) := by
  obtain ⟨_, a', cap', e, h1, h2, h3⟩ := h
  have hkl := (List.getElem?_eq_some_iff.1 hk).1
  obtain ⟨b, off, ha, hc⟩ := h3 (by omega)
  simp only [Value.slice.injEq] at e
  refine ⟨b, off, e.1.trans ha, ?_⟩
  have := hc k t hk
  rw [World.cell?_of_block (hb.block b (World.block_lt_of_cell? w _ this))]
  exact this
theorem RdI.below {w w' : World} {v : Value} {l : List Int} (h : RdI w v l) (hb : Below w.heap.size w w') : RdI w' v l := by
  obtain ⟨h0, a, cap, e, h1, h2, h3⟩ := h
  refine ⟨h0, a, cap, e, h1, h2, fun hp => ?_⟩
  obtain ⟨b, off, ha, hc⟩ := h3 hp
  refine ⟨b, off, ha, fun j c hj => ?_⟩
  rw [World.cell?_of_block (hb.block b (World.block_lt_of_cell? w _ (hc j c hj)))]
  exact hc j c hj
end
end

section
set_option linter.unusedVariables false
set_option linter.unusedSimpArgs false
set_option synthInstance.maxSize 20000
set_option maxHeartbeats 2000000
set_option maxRecDepth 20000
open Go.RowKit Go.Maps

/-- An exchange that turns no two operations of one time. -/
theorem keep_swap {m : List OpT} {b : Nat} {x y : OpT} (hx : m[0]? = some x) (hy : m[b]? = some y) (h : ∀ i z, m[i]? = some z → (i ≠ 0 → z.a ≠ x.a) ∧ (i ≠ b → z.a ≠ y.a)) : Keep m ((m.set 0 y).set b x) := by
  by_cases hb : b = 0
  · subst hb
    rw [hx] at hy
    cases hy
    rw [List.set_set]
    have : m.set 0 x = m := by
      obtain ⟨h1, h2⟩ := List.getElem?_eq_some_iff.1 hx
      rw [← h2]
      exact List.set_getElem_self h1
    rw [this]
    exact Keep.refl m
  · obtain ⟨b', rfl⟩ : ∃ b', b = b' + 1 := ⟨b - 1, by omega⟩
    cases m with
    | nil => simp at hx
    | cons u r =>
      have e1 : u = x := by simpa using hx
      subst e1
      rw [List.getElem?_cons_succ] at hy
      obtain ⟨h1, h2⟩ := List.getElem?_eq_some_iff.1 hy
      have er : r = r.take b' ++ y :: r.drop (b' + 1) := by rw [← h2, List.getElem_cons_drop, List.take_append_drop]
      have hne : ∀ z ∈ r.take b' ++ r.drop (b' + 1), z.a ≠ u.a ∧ z.a ≠ y.a := fun z hz => by
        rcases List.mem_append.1 hz with hz | hz
        · obtain ⟨i, hi⟩ := List.getElem?_of_mem hz
          rw [List.getElem?_take] at hi
          split at hi
          · have := h (i + 1) z (by rw [List.getElem?_cons_succ]; exact hi)
            exact ⟨this.1 (by omega), this.2 (by omega)⟩
          · cases hi
        · obtain ⟨i, hi⟩ := List.getElem?_of_mem hz
          rw [List.getElem?_drop] at hi
          have := h (b' + 1 + i + 1) z (by rw [List.getElem?_cons_succ]; exact hi)
          exact ⟨this.1 (by omega), this.2 (by omega)⟩
      have hxy : u.a ≠ y.a := (h 0 u (by simp)).2 (by omega)
      have es : ((u :: r).set 0 y).set (b' + 1) u = y :: (r.take b' ++ u :: r.drop (b' + 1)) := by
        rw [List.set_cons_zero, List.set_cons_succ, List.set_eq_take_append_cons_drop, if_pos h1]
      rw [es]
      intro c
      rw [show (u :: r).filter (atK c) = (u :: (r.take b' ++ y :: r.drop (b' + 1))).filter (atK c) by rw [← er]]
      have hn : ∀ z ∈ r.take b' ++ r.drop (b' + 1), z.a = c → c ≠ u.a ∧ c ≠ y.a := fun z hz e => by rw [← e]; exact hne z hz
      by_cases hc1 : u.a = c
      · have n1 : (r.take b').filter (atK c) = [] := filter_none fun z hz e => (hn z (List.mem_append_left _ hz) e).1 hc1.symm
        have n2 : (r.drop (b' + 1)).filter (atK c) = [] := filter_none fun z hz e => (hn z (List.mem_append_right _ hz) e).1 hc1.symm
        have ky : atK c y = false := by rw [← hc1]; simp [atK]; exact fun e => hxy e.symm
        have kx : atK c u = true := by simp [atK, hc1]
        simp [List.filter_append, List.filter_cons, n1, n2, ky, kx]
      · have kx : atK c u = false := by simp [atK]; exact hc1
        by_cases hc2 : y.a = c
        · have n1 : (r.take b').filter (atK c) = [] := filter_none fun z hz e => (hn z (List.mem_append_left _ hz) e).2 hc2.symm
          have n2 : (r.drop (b' + 1)).filter (atK c) = [] := filter_none fun z hz e => (hn z (List.mem_append_right _ hz) e).2 hc2.symm
          have ky : atK c y = true := by simp [atK, hc2]
          simp [List.filter_append, List.filter_cons, n1, n2, ky, kx]
        · have ky : atK c y = false := by simp [atK]; exact hc2
          simp [List.filter_append, List.filter_cons, ky, kx]
theorem swap_ix (t : Int) {N : Nat} (hN : 0 < N) (h40 : N ≤ 40) : ∃ b : Nat, ((wrap64 (t.tmod (N : Int) + (N : Int))).tmod (N : Int)) = (b : Int) ∧ b < N := by
  have h0 : (0 : Int) < (N : Int) := by omega
  have h1 := Int.lt_tmod_of_pos t h0
  have h5 := Int.tmod_lt_of_pos t h0
  have hw : wrap64 (t.tmod (N : Int) + (N : Int)) = t.tmod (N : Int) + (N : Int) := by
    generalize t.tmod (N : Int) = q at h1 h5
    unfold wrap64
    omega
  rw [hw]
  have h2 : 0 ≤ t.tmod (N : Int) + (N : Int) := by omega
  have h3 := Int.tmod_nonneg (N : Int) h2
  have h4 := Int.tmod_lt_of_pos (t.tmod (N : Int) + (N : Int)) h0
  exact ⟨((t.tmod (N : Int) + (N : Int)).tmod (N : Int)).toNat, by omega, by omega⟩
theorem range_at {w : World} {b off : Nat} {q : OpT} (h : w.rangeAt b off (oc q)) : w.rangeAt b (off + 1) (sc q.a) := by
  intro j u hj
  match j, hj with
  | 0, hj => exact h 1 u hj
  | 1, hj => exact h 2 u hj
  | j + 2, hj => simp [sc] at hj
set_option maxHeartbeats 16000000 in
theorem builds4 (v : Value) (l : List OpT) (tv : Value) (tl : List Int) (W : World) (rd : RowF oc W v l) (en : ∀ q ∈ l, QIn W q) (ti : RdI W tv tl) : Calls Try.prog 4 #[v, tv] W fun e W' => e = .returned (.bool true) ∧ Below W.heap.size W W' := by
  obtain ⟨a0, c0, rfl⟩ := rd.len
  obtain ⟨at', ct, rfl⟩ := ti.len
  have hcap := rd.caps
  have HRD : Hid (RowF oc W (.slice a0 l.length c0) l) := rd
  have HTI : Hid (RdI W (.slice at' tl.length ct) tl) := ti
  have HEN : Hid (∀ q ∈ l, Rd W q.v q.b) := fun q hq => (en q hq).rd
  have HAl : Hid (∀ w', Calls Try.prog 9 #[] w' fun e w'' => e = .returned (.bool true) ∧ Below w'.heap.size w' w'') := alive9
  have HLt : Hid (Calls Try.prog 8 #[.slice a0 l.length c0, .int .i64 40] W fun e w' => e = .returned (.bool (lightB l 40)) ∧ w' = W) := light8 rd (by omega)
  clear rd en hcap ti
  go_enter Try.func4, Try.ntmps4
  cases hlb : lightB l 40
  · rw [hlb] at HLt
    clear hlb
    go_wp2_with (first
      | (go_at_call 8; go_must (refine HLt.out.mono ?_; rintro e wx ⟨rfl, hw⟩; replace hw := hw.symm; subst hw))
      | (go_at_call 9; go_must (refine (HAl.out _).mono ?_; rintro e w3 ⟨rfl, hb3⟩; have HB3 : Hid (Below W.heap.size W w3) := hb3; clear hb3)))
    go_ret
    exact ⟨rfl, HB3.out⟩
  rw [hlb] at HLt
  by_cases ht60 : 60 < tl.length
  · have ht60I : (60 : Int) < (tl.length : Int) := by omega
    clear hlb
    go_wp2_with (first
      | (go_at_call 8; go_must (refine HLt.out.mono ?_; rintro e wx ⟨rfl, hw⟩; replace hw := hw.symm; subst hw))
      | (go_at_call 9; go_must (refine (HAl.out _).mono ?_; rintro e w3 ⟨rfl, hb3⟩; have HB3 : Hid (Below W.heap.size W w3) := hb3; clear hb3)))
    go_ret
    exact ⟨rfl, HB3.out⟩
  have ht60I : ¬ (60 : Int) < (tl.length : Int) := by omega
  obtain ⟨hl40, hq⟩ := light_of hlb HEN.out
  have HL40 : Hid (l.length ≤ 40) := by show _ ≤ _; omega
  have HT60 : Hid (tl.length ≤ 60) := by show _ ≤ _; omega
  have HQ : Hid (∀ q ∈ l, Rd W q.v q.b ∧ q.b.length ≤ 1000) := hq
  have HBu : Hid (Calls Try.prog 27 #[.slice a0 l.length c0] W (BuildAns W l)) := build27 HRD.out (by omega) hq
  clear hlb hl40 hq ht60
  go_upto_region 5 with (first
    | (go_at_call 8; go_must (refine HLt.out.mono ?_; rintro e wx ⟨rfl, hw⟩; replace hw := hw.symm; subst hw))
    | (go_at_call 27; go_must (refine HBu.out.mono ?_; rintro e w2 ⟨tb, mo, L, O, rfl, hP, hF, hM, hlen, ht, hmo, hb2⟩; have HB2 : Hid (Below W.heap.size W w2) := hb2; have HP2 : Hid (PTr w2 tb mo L) := hP; have HM : Hid (L.map IT.m = buildM [] O) := hM; have HLo : Hid (O.length ≤ l.length) := hlen; have HFo : Hid (FirstOf O l) := hF; have HBr : Hid (Calls Try.prog 28 #[.slice a0 l.length c0] w2 (RBuildAns w2 l)) := build28 (HRD.out.below hb2) (by have := HL40.out; omega) (fun q hq => (HQ.out q hq).1.below hb2); clear hb2 hP hM hlen ht hmo hF))
    | (go_at_call 28; go_must (refine HBr.out.mono ?_; rintro e w3 ⟨rb, v2, L2, O2, rfl, hR, hF, hM, hrb, hb3⟩; have HB3 : Hid (Below w2.heap.size w2 w3) := hb3; have HR3 : Hid (RTr w3 rb v2 L2) := hR; have HM2 : Hid (L2.map IT.m = buildM [] O) := (show _ = _ from by rw [hM, hF.uniq HFo.out (fun c => rfl)]); clear hb3 hR hM hF hrb)))
  clear ht60I HLt HBu HBr
  obtain ⟨M, hM⟩ : ∃ M, M = buildM [] O := ⟨_, rfl⟩
  have HMO : Hid (M = buildM [] O) := hM
  have HBo3 : Hid (Both w3 tb rb mo v2 L L2 M) := by
    have h1 := buildM_len O []
    have h2 := HLo.out
    have h3 := HL40.out
    rw [List.length_nil] at h1
    refine ⟨HP2.out.below HB3.out, HR3.out, HM.out.trans hM.symm, HM2.out.trans hM.symm, ?_, by rw [hM]; omega⟩
    rw [hM]
    exact Gd.build gd_nil (by rw [List.length_nil]; omega)
  have HBW3 : Hid (Below W.heap.size W w3) := bnext HB2.out HB3.out
  have HRl3 : Hid (RowF oc w3 (.slice a0 l.length c0) l) := HRD.out.below HBW3.out
  have HTI3 : Hid (RdI w3 (.slice at' tl.length ct) tl) := HTI.out.below HBW3.out
  clear hM HM HM2 HP2 HR3 HB2 HB3 HLo
  have HO4 : Hid ((w3.alloc (.cells #[] 40)).ownsRow 0 40 10 (.slice (some ⟨w3.heap.size, 0, none⟩) 0 0) ([] : List OpT).length (flat oc [])) := own0 w3
  have HB4 : Hid (Below w3.heap.size w3 (w3.alloc (.cells #[] 40))) := (show Below _ _ _ from balloc (Below.refl _ _) _)
  have tk1 : Hid True := trivial
  go_upto_region 6 with (clear tk1; refine wpList_append_rows ty28 oc_len (by omega) rfl (.tmp 27) (.tmp 28) rfl _ [] rfl HO4.out _ l rfl (HRl3.out.below HB4.out) (flat_oc_one _) (by have := HL40.out; simp; omega) ?_; intro v5 w5 hown5 hg5 hwh5; have HO5 : Hid (w5.ownsRow 0 40 10 v5 l.length (flat oc l)) := hown5; have HB5 : Hid (Below w3.heap.size w3 w5) := HB4.out.grown hg5 HB4.out.size (fun k hk => by cases hk; exact Nat.le_refl _); have HN5 : Hid (∀ k, v5.ownBlock = some k → w3.heap.size ≤ k) := (fun k hk => (hwh5 k hk).elim (fun h => by cases h; exact Nat.le_refl _) (fun h => Nat.le_trans HB4.out.size h)); clear hown5 hg5 hwh5)
  obtain ⟨a2, c2, rfl⟩ := HBo3.out.slice
  obtain ⟨a5, c5, rfl⟩ := (show ∃ a c, v5 = .slice a l.length c from (rowF_own oc_len HO5.out).len)
  have hcap5 := (rowF_own oc_len HO5.out).caps
  have hl40 : l.length ≤ 40 := HL40.out
  have ht60 : tl.length ≤ 60 := HT60.out
  obtain ⟨N, hN⟩ : ∃ N, N = l.length := ⟨_, rfl⟩
  obtain ⟨T, hT⟩ : ∃ T, T = tl.length := ⟨_, rfl⟩
  have HNl : Hid (N = l.length) := hN
  have HTl : Hid (T = tl.length) := hT
  rw [← hN] at hcap5 hl40 HO5 HN5 ⊢
  rw [← hT] at ht60 HTI3 ⊢
  clear hN hT HO4 HB4 HRl3
  go_wp2
  go_loopw [8, 9, 10, 11, 12, 13] (fun i _ _ _ _ _ wr => ∃ (k : Nat) (m : List OpT), i = .int .i64 (k : Int) ∧ k ≤ T ∧ m.length = N ∧ Hid (Keep l m) ∧ Hid (wr.ownsRow 0 40 10 (.slice a5 N c5) N (flat oc m)) ∧ Hid (Below w3.heap.size w3 wr)) (fun i _ _ _ _ _ _ => T - (intOf i).toNat)
  case atStart => exact ⟨0, l, rfl, Nat.zero_le _, HNl.out.symm, Keep.refl l, HO5, HB5⟩
  case round =>
    obtain ⟨k, m, rfl, hk, hmN, HK, HO, HB⟩ := hrel
    clear HO5 HB5
    rename World => wr
    by_cases hend : k < T ∧ 0 < N
    · obtain ⟨hlt, hN0⟩ := hend
      have hkI : (k : Int) < (T : Int) := by omega
      have hNI : (0 : Int) < (N : Int) := by omega
      obtain ⟨t, ht⟩ : ∃ t, tl[k]? = some t := ⟨_, List.getElem?_eq_getElem (by have := HTl.out; omega)⟩
      obtain ⟨bt, ot, rfl, _⟩ := HTI3.out.at (Below.refl _ _) ht
      have HCt : Hid (∀ z : WIn (fun w' => Below wr.heap.size wr w'), z.w.cell? ⟨bt, ot + k, none⟩ = some (.int .i64 t)) := fun z => by
        obtain ⟨b', o', e, h⟩ := HTI3.out.at (bnext HB.out z.ok) ht
        cases e
        exact h
      have HTr : Hid (I64 t) := HTI3.out.1 t (List.mem_of_getElem? ht)
      obtain ⟨b, hbe, hbN⟩ := swap_ix t hN0 hl40
      have HBE : Hid ((wrap64 (t.tmod (N : Int) + (N : Int))).tmod (N : Int) = (b : Int)) := hbe
      clear ht hbe
      go_upto_region 9 with fail
      have cT := HCt.out
      have ne : Nonempty (WIn (fun w' => Below wr.heap.size wr w')) := ⟨⟨wr.drew, below_drewn wr 1⟩⟩
      refine wp_region_ord (C := fun w' => ∃ z : WIn (fun w' => Below wr.heap.size wr w'), w' = z.w) [(false, 0), (false, 1), (false, 2), (false, 3), (false, 4), (false, 5), (false, 6), (false, 7), (false, 8), (false, 9), (false, 10), (false, 11), (false, 12), (false, 13), (false, 14)] (by kernel_rfl) (by kernel_rfl) ⟨⟨wr.drew, below_drewn wr 1⟩, rfl⟩ ?_
      iterate 15 (refine ord_still rfl rfl ?_; go_big_quiet_step (fail); refine wpQuiet_nil ?_)
      refine ord_end ?_
      clear ne
      rw [HBE.out]
      clear cT HCt HBE
      obtain ⟨g, rfl⟩ : ∃ g, a5 = some ⟨g, 0, none⟩ := by
        rcases HO.out.2 with ⟨_, h0⟩ | ⟨g, cap, cur, e, _⟩
        · omega
        · injection e with e1 _ _
          exact ⟨g, e1⟩
      obtain ⟨wd, hwd⟩ : ∃ wd, wd = wr.drew := ⟨_, rfl⟩
      rw [← hwd]
      have HRow : Hid (Row wd g N c5 m) := by show Row _ _ _ _ _; rw [hwd]; exact Row.drew ⟨hmN, HO.out⟩
      have HBd : Hid (Below w3.heap.size w3 wd) := by show Below _ _ _; rw [hwd]; exact bnext HB.out (below_drewn wr 1)
      obtain ⟨x0, hx0⟩ : ∃ x, m[0]? = some x := ⟨_, List.getElem?_eq_getElem (by omega)⟩
      obtain ⟨xb, hxb⟩ : ∃ x, m[b]? = some x := ⟨_, List.getElem?_eq_getElem (by omega)⟩
      have HM0 : Hid (m[0]? = some x0) := hx0
      have HMb : Hid (m[b]? = some xb) := hxb
      clear hwd hx0 hxb HO HB
      go_wp2
      go_loopw [11, 12] (fun tw j wi => ∃ (p : Nat) (sw : Bool), j = .int .i64 (p : Int) ∧ tw = .bool sw ∧ p ≤ N ∧ Hid (sw = false → ∀ i z, i < p → m[i]? = some z → (i ≠ 0 → z.a ≠ x0.a) ∧ (i ≠ b → z.a ≠ xb.a)) ∧ Hid (Below wd.heap.size wd wi)) (fun _ j _ => N - (intOf j).toNat)
      case atStart => exact ⟨0, false, rfl, rfl, Nat.zero_le _, (fun _ i z hi => by omega), Below.refl _ _⟩
      case round =>
        obtain ⟨p, sw, rfl, rfl, hp, HS, HBi⟩ := hrel
        rename World => wi
        by_cases hpN : p < N
        · have hpI : (p : Int) < (N : Int) := by omega
          obtain ⟨y1, hz⟩ : ∃ z, m[p]? = some z := ⟨_, List.getElem?_eq_getElem (by omega)⟩
          have HZa : Hid (∀ w', Below wi.heap.size wi w' → w'.rangeAt g (p * 10 + 1) (sc y1.a)) := fun w' hb => range_at ((HRow.out.below (bnext HBi.out hb)).load hz)
          have HX0 : Hid (∀ w', Below wi.heap.size wi w' → w'.rangeAt g 1 (sc x0.a)) := fun w' hb => by
            have := range_at ((HRow.out.below (bnext HBi.out hb)).load HM0.out)
            simpa using this
          have HXb : Hid (∀ w', Below wi.heap.size wi w' → w'.rangeAt g (b * 10 + 1) (sc xb.a)) := fun w' hb => range_at ((HRow.out.below (bnext HBi.out hb)).load HMb.out)
          cases sw
          · have HNext : Hid ((p ≠ 0 → y1.a ≠ x0.a) → (p ≠ b → y1.a ≠ xb.a) → (false = false → ∀ i z, i < p + 1 → m[i]? = some z → (i ≠ 0 → z.a ≠ x0.a) ∧ (i ≠ b → z.a ≠ xb.a))) := fun h1 h2 _ i z' hi hz' => by
              by_cases e : i = p
              · subst e
                rw [hz] at hz'
                cases hz'
                exact ⟨h1, h2⟩
              · exact HS.out rfl i z' (by omega) hz'
            clear hz HS
            go_upto_region 14 with fail
            by_cases hp0 : p = 0
            · subst hp0
              by_cases hpb : 0 = b
              · subst hpb
                have HNx : Hid (false = false → ∀ i z, i < 0 + 1 → m[i]? = some z → (i ≠ 0 → z.a ≠ x0.a) ∧ (i ≠ 0 → z.a ≠ xb.a)) := HNext.out (fun h => absurd rfl h) (fun h => absurd rfl h)
                have ne : Nonempty (WIn (fun w' => Below wi.heap.size wi w')) := ⟨⟨wi.drew, below_drewn wi 1⟩⟩
                refine wp_region_ord (C := fun w' => ∃ z : WIn (fun w' => Below wi.heap.size wi w'), w' = z.w) [(false, 0), (false, 1), (false, 2), (false, 3), (false, 4), (false, 5), (false, 6), (false, 7), (false, 8), (false, 9), (false, 10), (false, 11), (false, 12), (false, 13), (false, 14), (false, 15), (false, 16), (false, 17), (false, 18), (false, 19), (false, 20), (false, 21), (false, 22), (false, 23), (false, 24), (false, 25), (false, 26), (false, 27), (false, 28), (false, 29), (false, 30), (false, 31), (false, 32), (false, 33), (false, 34), (false, 35), (false, 36), (false, 37)] (by kernel_rfl) (by kernel_rfl) ⟨⟨wi.drew, below_drewn wi 1⟩, rfl⟩ ?_
                iterate 38 (first | (refine ord_still rfl rfl ?_; go_big_quiet_step (fail); refine wpQuiet_nil ?_) | (refine ord_shut rfl rfl ?_; go_big_quiet_step (fail); refine wpQuiet_nil ?_))
                refine ord_end ?_
                clear ne
                go_wp2
                go_roundw
                case rel => exact ⟨0 + 1, false, by go_num, rfl, by omega, HNx, bnext HBi.out (below_drewn wi 1)⟩
                case measure => simp [intOf]; omega
              · have hpbI : ((0 : Int) != (b : Int)) = true := by simp; omega
                cases h2 : decide (y1.a = xb.a)
                · have HE2 : Hid (decide (y1.a = xb.a) = false) := h2
                  have HNx : Hid (false = false → ∀ i z, i < 0 + 1 → m[i]? = some z → (i ≠ 0 → z.a ≠ x0.a) ∧ (i ≠ b → z.a ≠ xb.a)) := HNext.out (fun h => absurd rfl h) (fun _ => of_decide_eq_false h2)
                  clear hpb h2
                  have ne : Nonempty (WIn (fun w' => Below wi.heap.size wi w')) := ⟨⟨wi.drew, below_drewn wi 1⟩⟩
                  refine wp_region_ord (C := fun w' => ∃ z : WIn (fun w' => Below wi.heap.size wi w'), w' = z.w) [(false, 0), (false, 1), (false, 2), (false, 3), (false, 4), (false, 5), (false, 6), (false, 7), (false, 8), (false, 9), (false, 10), (false, 11), (false, 12), (false, 13), (false, 14), (false, 15), (false, 16), (false, 17), (false, 18), (false, 19), (false, 20), (false, 21), (false, 22), (false, 23), (false, 24), (false, 25), (false, 26), (false, 27), (false, 28), (false, 29), (false, 30), (false, 31), (false, 32), (false, 33), (false, 34), (false, 35), (false, 36), (false, 37)] (by kernel_rfl) (by kernel_rfl) ⟨⟨wi.drew, below_drewn wi 1⟩, rfl⟩ ?_
                  iterate 28 (first | (refine ord_still rfl rfl ?_; go_big_quiet_step (fail); refine wpQuiet_nil ?_) | (refine ord_shut rfl rfl ?_; go_big_quiet_step (fail); refine wpQuiet_nil ?_))
                  refine ord_still rfl rfl ?_
                  refine quiet_ok1 rfl (fun w' hw' => by obtain ⟨z, rfl⟩ := hw'; exact exec_load24n (n := y1.a) (.tmp 87) rfl rfl (HZa.out z.w z.ok)) ?_
                  go_simp
                  iterate 4 (first | (refine ord_still rfl rfl ?_; go_big_quiet_step (fail); refine wpQuiet_nil ?_) | (refine ord_shut rfl rfl ?_; go_big_quiet_step (fail); refine wpQuiet_nil ?_))
                  refine ord_still rfl rfl ?_
                  refine quiet_ok1 rfl (fun w' hw' => by obtain ⟨z, rfl⟩ := hw'; exact exec_load24n (n := xb.a) (.tmp 92) rfl rfl (HXb.out z.w z.ok)) ?_
                  go_simp
                  refine ord_still rfl rfl ?_
                  refine quiet_ok1 rfl (fun w' hw' => exec_eql24 (a := y1.a) (b := xb.a) (.tmp 88) (.tmp 93) rfl rfl rfl) ?_
                  rw [HE2.out]
                  go_simp
                  iterate 3 (first | (refine ord_still rfl rfl ?_; go_big_quiet_step (fail); refine wpQuiet_nil ?_) | (refine ord_shut rfl rfl ?_; go_big_quiet_step (fail); refine wpQuiet_nil ?_))
                  refine ord_end ?_
                  clear ne
                  go_wp2
                  go_roundw
                  case rel => exact ⟨0 + 1, false, by go_num, rfl, by omega, HNx, bnext HBi.out (below_drewn wi 1)⟩
                  case measure => simp [intOf]; omega
                · have HE2 : Hid (decide (y1.a = xb.a) = true) := h2
                  clear hpb h2
                  have ne : Nonempty (WIn (fun w' => Below wi.heap.size wi w')) := ⟨⟨wi.drew, below_drewn wi 1⟩⟩
                  refine wp_region_ord (C := fun w' => ∃ z : WIn (fun w' => Below wi.heap.size wi w'), w' = z.w) [(false, 0), (false, 1), (false, 2), (false, 3), (false, 4), (false, 5), (false, 6), (false, 7), (false, 8), (false, 9), (false, 10), (false, 11), (false, 12), (false, 13), (false, 14), (false, 15), (false, 16), (false, 17), (false, 18), (false, 19), (false, 20), (false, 21), (false, 22), (false, 23), (false, 24), (false, 25), (false, 26), (false, 27), (false, 28), (false, 29), (false, 30), (false, 31), (false, 32), (false, 33), (false, 34), (false, 35), (false, 36), (false, 37)] (by kernel_rfl) (by kernel_rfl) ⟨⟨wi.drew, below_drewn wi 1⟩, rfl⟩ ?_
                  iterate 28 (first | (refine ord_still rfl rfl ?_; go_big_quiet_step (fail); refine wpQuiet_nil ?_) | (refine ord_shut rfl rfl ?_; go_big_quiet_step (fail); refine wpQuiet_nil ?_))
                  refine ord_still rfl rfl ?_
                  refine quiet_ok1 rfl (fun w' hw' => by obtain ⟨z, rfl⟩ := hw'; exact exec_load24n (n := y1.a) (.tmp 87) rfl rfl (HZa.out z.w z.ok)) ?_
                  go_simp
                  iterate 4 (first | (refine ord_still rfl rfl ?_; go_big_quiet_step (fail); refine wpQuiet_nil ?_) | (refine ord_shut rfl rfl ?_; go_big_quiet_step (fail); refine wpQuiet_nil ?_))
                  refine ord_still rfl rfl ?_
                  refine quiet_ok1 rfl (fun w' hw' => by obtain ⟨z, rfl⟩ := hw'; exact exec_load24n (n := xb.a) (.tmp 92) rfl rfl (HXb.out z.w z.ok)) ?_
                  go_simp
                  refine ord_still rfl rfl ?_
                  refine quiet_ok1 rfl (fun w' hw' => exec_eql24 (a := y1.a) (b := xb.a) (.tmp 88) (.tmp 93) rfl rfl rfl) ?_
                  rw [HE2.out]
                  go_simp
                  iterate 3 (first | (refine ord_still rfl rfl ?_; go_big_quiet_step (fail); refine wpQuiet_nil ?_) | (refine ord_shut rfl rfl ?_; go_big_quiet_step (fail); refine wpQuiet_nil ?_))
                  refine ord_end ?_
                  clear ne
                  go_wp2
                  go_roundw
                  case rel => exact ⟨0 + 1, true, by go_num, rfl, by omega, (fun h => by cases h), bnext HBi.out (below_drewn wi 1)⟩
                  case measure => simp [intOf]; omega
            · have hp0I : ((p : Int) != 0) = true := by simp [hp0]
              cases h1 : decide (y1.a = x0.a)
              · have HE1 : Hid (decide (y1.a = x0.a) = false) := h1
                by_cases hpb : p = b
                · subst hpb
                  have HNx : Hid (false = false → ∀ i z, i < p + 1 → m[i]? = some z → (i ≠ 0 → z.a ≠ x0.a) ∧ (i ≠ p → z.a ≠ xb.a)) := HNext.out (fun _ => of_decide_eq_false HE1.out) (fun h => absurd rfl h)
                  have ne : Nonempty (WIn (fun w' => Below wi.heap.size wi w')) := ⟨⟨wi.drew, below_drewn wi 1⟩⟩
                  refine wp_region_ord (C := fun w' => ∃ z : WIn (fun w' => Below wi.heap.size wi w'), w' = z.w) [(false, 0), (false, 1), (false, 2), (false, 3), (false, 4), (false, 5), (false, 6), (false, 7), (false, 8), (false, 9), (false, 10), (false, 11), (false, 12), (false, 13), (false, 14), (false, 15), (false, 16), (false, 17), (false, 18), (false, 19), (false, 20), (false, 21), (false, 22), (false, 23), (false, 24), (false, 25), (false, 26), (false, 27), (false, 28), (false, 29), (false, 30), (false, 31), (false, 32), (false, 33), (false, 34), (false, 35), (false, 36), (false, 37)] (by kernel_rfl) (by kernel_rfl) ⟨⟨wi.drew, below_drewn wi 1⟩, rfl⟩ ?_
                  iterate 10 (first | (refine ord_still rfl rfl ?_; go_big_quiet_step (fail); refine wpQuiet_nil ?_) | (refine ord_shut rfl rfl ?_; go_big_quiet_step (fail); refine wpQuiet_nil ?_))
                  refine ord_still rfl rfl ?_
                  refine quiet_ok1 rfl (fun w' hw' => by obtain ⟨z, rfl⟩ := hw'; exact exec_load24n (n := y1.a) (.tmp 69) rfl rfl (HZa.out z.w z.ok)) ?_
                  go_simp
                  iterate 4 (first | (refine ord_still rfl rfl ?_; go_big_quiet_step (fail); refine wpQuiet_nil ?_) | (refine ord_shut rfl rfl ?_; go_big_quiet_step (fail); refine wpQuiet_nil ?_))
                  refine ord_still rfl rfl ?_
                  refine quiet_ok1 rfl (fun w' hw' => by obtain ⟨z, rfl⟩ := hw'; exact exec_load24n (n := x0.a) (.tmp 74) rfl rfl (HX0.out z.w z.ok)) ?_
                  go_simp
                  refine ord_still rfl rfl ?_
                  refine quiet_ok1 rfl (fun w' hw' => exec_eql24 (a := y1.a) (b := x0.a) (.tmp 70) (.tmp 75) rfl rfl rfl) ?_
                  rw [HE1.out]
                  go_simp
                  iterate 21 (first | (refine ord_still rfl rfl ?_; go_big_quiet_step (fail); refine wpQuiet_nil ?_) | (refine ord_shut rfl rfl ?_; go_big_quiet_step (fail); refine wpQuiet_nil ?_))
                  refine ord_end ?_
                  clear ne
                  go_wp2
                  go_roundw
                  case rel => exact ⟨p + 1, false, by go_num, rfl, by omega, HNx, bnext HBi.out (below_drewn wi 1)⟩
                  case measure => simp [intOf]; omega
                · have hpbI : ((p : Int) != (b : Int)) = true := by simp; omega
                  cases h2 : decide (y1.a = xb.a)
                  · have HE2 : Hid (decide (y1.a = xb.a) = false) := h2
                    have HNx : Hid (false = false → ∀ i z, i < p + 1 → m[i]? = some z → (i ≠ 0 → z.a ≠ x0.a) ∧ (i ≠ b → z.a ≠ xb.a)) := HNext.out (fun _ => of_decide_eq_false HE1.out) (fun _ => of_decide_eq_false h2)
                    clear hpb h2
                    have ne : Nonempty (WIn (fun w' => Below wi.heap.size wi w')) := ⟨⟨wi.drew, below_drewn wi 1⟩⟩
                    refine wp_region_ord (C := fun w' => ∃ z : WIn (fun w' => Below wi.heap.size wi w'), w' = z.w) [(false, 0), (false, 1), (false, 2), (false, 3), (false, 4), (false, 5), (false, 6), (false, 7), (false, 8), (false, 9), (false, 10), (false, 11), (false, 12), (false, 13), (false, 14), (false, 15), (false, 16), (false, 17), (false, 18), (false, 19), (false, 20), (false, 21), (false, 22), (false, 23), (false, 24), (false, 25), (false, 26), (false, 27), (false, 28), (false, 29), (false, 30), (false, 31), (false, 32), (false, 33), (false, 34), (false, 35), (false, 36), (false, 37)] (by kernel_rfl) (by kernel_rfl) ⟨⟨wi.drew, below_drewn wi 1⟩, rfl⟩ ?_
                    iterate 10 (first | (refine ord_still rfl rfl ?_; go_big_quiet_step (fail); refine wpQuiet_nil ?_) | (refine ord_shut rfl rfl ?_; go_big_quiet_step (fail); refine wpQuiet_nil ?_))
                    refine ord_still rfl rfl ?_
                    refine quiet_ok1 rfl (fun w' hw' => by obtain ⟨z, rfl⟩ := hw'; exact exec_load24n (n := y1.a) (.tmp 69) rfl rfl (HZa.out z.w z.ok)) ?_
                    go_simp
                    iterate 4 (first | (refine ord_still rfl rfl ?_; go_big_quiet_step (fail); refine wpQuiet_nil ?_) | (refine ord_shut rfl rfl ?_; go_big_quiet_step (fail); refine wpQuiet_nil ?_))
                    refine ord_still rfl rfl ?_
                    refine quiet_ok1 rfl (fun w' hw' => by obtain ⟨z, rfl⟩ := hw'; exact exec_load24n (n := x0.a) (.tmp 74) rfl rfl (HX0.out z.w z.ok)) ?_
                    go_simp
                    refine ord_still rfl rfl ?_
                    refine quiet_ok1 rfl (fun w' hw' => exec_eql24 (a := y1.a) (b := x0.a) (.tmp 70) (.tmp 75) rfl rfl rfl) ?_
                    rw [HE1.out]
                    go_simp
                    iterate 11 (first | (refine ord_still rfl rfl ?_; go_big_quiet_step (fail); refine wpQuiet_nil ?_) | (refine ord_shut rfl rfl ?_; go_big_quiet_step (fail); refine wpQuiet_nil ?_))
                    refine ord_still rfl rfl ?_
                    refine quiet_ok1 rfl (fun w' hw' => by obtain ⟨z, rfl⟩ := hw'; exact exec_load24n (n := y1.a) (.tmp 87) rfl rfl (HZa.out z.w z.ok)) ?_
                    go_simp
                    iterate 4 (first | (refine ord_still rfl rfl ?_; go_big_quiet_step (fail); refine wpQuiet_nil ?_) | (refine ord_shut rfl rfl ?_; go_big_quiet_step (fail); refine wpQuiet_nil ?_))
                    refine ord_still rfl rfl ?_
                    refine quiet_ok1 rfl (fun w' hw' => by obtain ⟨z, rfl⟩ := hw'; exact exec_load24n (n := xb.a) (.tmp 92) rfl rfl (HXb.out z.w z.ok)) ?_
                    go_simp
                    refine ord_still rfl rfl ?_
                    refine quiet_ok1 rfl (fun w' hw' => exec_eql24 (a := y1.a) (b := xb.a) (.tmp 88) (.tmp 93) rfl rfl rfl) ?_
                    rw [HE2.out]
                    go_simp
                    iterate 3 (first | (refine ord_still rfl rfl ?_; go_big_quiet_step (fail); refine wpQuiet_nil ?_) | (refine ord_shut rfl rfl ?_; go_big_quiet_step (fail); refine wpQuiet_nil ?_))
                    refine ord_end ?_
                    clear ne
                    go_wp2
                    go_roundw
                    case rel => exact ⟨p + 1, false, by go_num, rfl, by omega, HNx, bnext HBi.out (below_drewn wi 1)⟩
                    case measure => simp [intOf]; omega
                  · have HE2 : Hid (decide (y1.a = xb.a) = true) := h2
                    clear hpb h2
                    have ne : Nonempty (WIn (fun w' => Below wi.heap.size wi w')) := ⟨⟨wi.drew, below_drewn wi 1⟩⟩
                    refine wp_region_ord (C := fun w' => ∃ z : WIn (fun w' => Below wi.heap.size wi w'), w' = z.w) [(false, 0), (false, 1), (false, 2), (false, 3), (false, 4), (false, 5), (false, 6), (false, 7), (false, 8), (false, 9), (false, 10), (false, 11), (false, 12), (false, 13), (false, 14), (false, 15), (false, 16), (false, 17), (false, 18), (false, 19), (false, 20), (false, 21), (false, 22), (false, 23), (false, 24), (false, 25), (false, 26), (false, 27), (false, 28), (false, 29), (false, 30), (false, 31), (false, 32), (false, 33), (false, 34), (false, 35), (false, 36), (false, 37)] (by kernel_rfl) (by kernel_rfl) ⟨⟨wi.drew, below_drewn wi 1⟩, rfl⟩ ?_
                    iterate 10 (first | (refine ord_still rfl rfl ?_; go_big_quiet_step (fail); refine wpQuiet_nil ?_) | (refine ord_shut rfl rfl ?_; go_big_quiet_step (fail); refine wpQuiet_nil ?_))
                    refine ord_still rfl rfl ?_
                    refine quiet_ok1 rfl (fun w' hw' => by obtain ⟨z, rfl⟩ := hw'; exact exec_load24n (n := y1.a) (.tmp 69) rfl rfl (HZa.out z.w z.ok)) ?_
                    go_simp
                    iterate 4 (first | (refine ord_still rfl rfl ?_; go_big_quiet_step (fail); refine wpQuiet_nil ?_) | (refine ord_shut rfl rfl ?_; go_big_quiet_step (fail); refine wpQuiet_nil ?_))
                    refine ord_still rfl rfl ?_
                    refine quiet_ok1 rfl (fun w' hw' => by obtain ⟨z, rfl⟩ := hw'; exact exec_load24n (n := x0.a) (.tmp 74) rfl rfl (HX0.out z.w z.ok)) ?_
                    go_simp
                    refine ord_still rfl rfl ?_
                    refine quiet_ok1 rfl (fun w' hw' => exec_eql24 (a := y1.a) (b := x0.a) (.tmp 70) (.tmp 75) rfl rfl rfl) ?_
                    rw [HE1.out]
                    go_simp
                    iterate 11 (first | (refine ord_still rfl rfl ?_; go_big_quiet_step (fail); refine wpQuiet_nil ?_) | (refine ord_shut rfl rfl ?_; go_big_quiet_step (fail); refine wpQuiet_nil ?_))
                    refine ord_still rfl rfl ?_
                    refine quiet_ok1 rfl (fun w' hw' => by obtain ⟨z, rfl⟩ := hw'; exact exec_load24n (n := y1.a) (.tmp 87) rfl rfl (HZa.out z.w z.ok)) ?_
                    go_simp
                    iterate 4 (first | (refine ord_still rfl rfl ?_; go_big_quiet_step (fail); refine wpQuiet_nil ?_) | (refine ord_shut rfl rfl ?_; go_big_quiet_step (fail); refine wpQuiet_nil ?_))
                    refine ord_still rfl rfl ?_
                    refine quiet_ok1 rfl (fun w' hw' => by obtain ⟨z, rfl⟩ := hw'; exact exec_load24n (n := xb.a) (.tmp 92) rfl rfl (HXb.out z.w z.ok)) ?_
                    go_simp
                    refine ord_still rfl rfl ?_
                    refine quiet_ok1 rfl (fun w' hw' => exec_eql24 (a := y1.a) (b := xb.a) (.tmp 88) (.tmp 93) rfl rfl rfl) ?_
                    rw [HE2.out]
                    go_simp
                    iterate 3 (first | (refine ord_still rfl rfl ?_; go_big_quiet_step (fail); refine wpQuiet_nil ?_) | (refine ord_shut rfl rfl ?_; go_big_quiet_step (fail); refine wpQuiet_nil ?_))
                    refine ord_end ?_
                    clear ne
                    go_wp2
                    go_roundw
                    case rel => exact ⟨p + 1, true, by go_num, rfl, by omega, (fun h => by cases h), bnext HBi.out (below_drewn wi 1)⟩
                    case measure => simp [intOf]; omega
              · have HE1 : Hid (decide (y1.a = x0.a) = true) := h1
                clear h1
                have ne : Nonempty (WIn (fun w' => Below wi.heap.size wi w')) := ⟨⟨wi.drew, below_drewn wi 1⟩⟩
                refine wp_region_ord (C := fun w' => ∃ z : WIn (fun w' => Below wi.heap.size wi w'), w' = z.w) [(false, 0), (false, 1), (false, 2), (false, 3), (false, 4), (false, 5), (false, 6), (false, 7), (false, 8), (false, 9), (false, 10), (false, 11), (false, 12), (false, 13), (false, 14), (false, 15), (false, 16), (false, 17), (false, 18), (false, 19), (false, 20), (false, 21), (false, 22), (false, 23), (false, 24), (false, 25), (false, 26), (false, 27), (false, 28), (false, 29), (false, 30), (false, 31), (false, 32), (false, 33), (false, 34), (false, 35), (false, 36), (false, 37)] (by kernel_rfl) (by kernel_rfl) ⟨⟨wi.drew, below_drewn wi 1⟩, rfl⟩ ?_
                iterate 10 (first | (refine ord_still rfl rfl ?_; go_big_quiet_step (fail); refine wpQuiet_nil ?_) | (refine ord_shut rfl rfl ?_; go_big_quiet_step (fail); refine wpQuiet_nil ?_))
                refine ord_still rfl rfl ?_
                refine quiet_ok1 rfl (fun w' hw' => by obtain ⟨z, rfl⟩ := hw'; exact exec_load24n (n := y1.a) (.tmp 69) rfl rfl (HZa.out z.w z.ok)) ?_
                go_simp
                iterate 4 (first | (refine ord_still rfl rfl ?_; go_big_quiet_step (fail); refine wpQuiet_nil ?_) | (refine ord_shut rfl rfl ?_; go_big_quiet_step (fail); refine wpQuiet_nil ?_))
                refine ord_still rfl rfl ?_
                refine quiet_ok1 rfl (fun w' hw' => by obtain ⟨z, rfl⟩ := hw'; exact exec_load24n (n := x0.a) (.tmp 74) rfl rfl (HX0.out z.w z.ok)) ?_
                go_simp
                refine ord_still rfl rfl ?_
                refine quiet_ok1 rfl (fun w' hw' => exec_eql24 (a := y1.a) (b := x0.a) (.tmp 70) (.tmp 75) rfl rfl rfl) ?_
                rw [HE1.out]
                go_simp
                iterate 21 (first | (refine ord_still rfl rfl ?_; go_big_quiet_step (fail); refine wpQuiet_nil ?_) | (refine ord_shut rfl rfl ?_; go_big_quiet_step (fail); refine wpQuiet_nil ?_))
                refine ord_end ?_
                clear ne
                go_wp2
                go_roundw
                case rel => exact ⟨p + 1, true, by go_num, rfl, by omega, (fun h => by cases h), bnext HBi.out (below_drewn wi 1)⟩
                case measure => simp [intOf]; omega
          · clear hz HS
            go_upto_region 14 with fail
            have ne : Nonempty (WIn (fun w' => Below wi.heap.size wi w')) := ⟨⟨wi.drew, below_drewn wi 1⟩⟩
            refine wp_region_ord (C := fun w' => ∃ z : WIn (fun w' => Below wi.heap.size wi w'), w' = z.w) [(false, 0), (false, 1), (false, 2), (false, 3), (false, 4), (false, 5), (false, 6), (false, 7), (false, 8), (false, 9), (false, 10), (false, 11), (false, 12), (false, 13), (false, 14), (false, 15), (false, 16), (false, 17), (false, 18), (false, 19), (false, 20), (false, 21), (false, 22), (false, 23), (false, 24), (false, 25), (false, 26), (false, 27), (false, 28), (false, 29), (false, 30), (false, 31), (false, 32), (false, 33), (false, 34), (false, 35), (false, 36), (false, 37)] (by kernel_rfl) (by kernel_rfl) ⟨⟨wi.drew, below_drewn wi 1⟩, rfl⟩ ?_
            iterate 38 (first | (refine ord_still rfl rfl ?_; go_big_quiet_step (fail); refine wpQuiet_nil ?_) | (refine ord_shut rfl rfl ?_; go_big_quiet_step (fail); refine wpQuiet_nil ?_))
            refine ord_end ?_
            clear ne
            go_wp2
            go_roundw
            case rel => exact ⟨p + 1, true, by go_num, rfl, by omega, (fun h => by cases h), bnext HBi.out (below_drewn wi 1)⟩
            case measure => simp [intOf]; omega
        · have hpI : ¬ (p : Int) < (N : Int) := by omega
          cases sw
          · have HKs : Hid (Keep l ((m.set 0 xb).set b x0)) := HK.out.trans (keep_swap HM0.out HMb.out fun i z hz => HS.out rfl i z (by have := (List.getElem?_eq_some_iff.1 hz).1; omega) hz)
            have HRi : Hid (Row wi g N c5 m) := HRow.out.below HBi.out
            have HL0 : Hid (wi.rangeAt g 0 (oc x0)) := by
              have := HRi.out.load HM0.out
              show World.rangeAt _ _ _ _
              simpa using this
            obtain ⟨w7, hw7⟩ : ∃ w7, w7 = wi.alloc (.cells (oc oz).toArray 40) := ⟨_, rfl⟩
            obtain ⟨g7, hg7⟩ : ∃ g7, g7 = wi.heap.size := ⟨_, rfl⟩
            obtain ⟨w8, hw8⟩ : ∃ w8, w8 = w7.setCells g7 0 (oc x0) := ⟨_, rfl⟩
            obtain ⟨j1, j2, j3, j4⟩ := op_put (Below.refl wi.heap.size wi) hw7 hg7 hw8
            have HT7 : Hid (w7.there g7 0 10) := j4
            have HR8 : Hid (Row w8 g N c5 m) := HRi.out.below j3
            have HLb : Hid (w8.rangeAt g (b * 10) (oc xb)) := HR8.out.load HMb.out
            obtain ⟨w9, wa, hw9, hwa, hRa, hga, ht8, ht9⟩ := HR8.out.xchg (grown_refl w8 (some g)) hN0 hbN x0 xb
            have HT8 : Hid (w8.there g 0 10) := by show World.there _ _ _ _; simpa using ht8
            have HT9 : Hid (w9.there g (b * 10) 10) := ht9
            have HW9 : Hid (w9 = w8.setCells g 0 (oc xb)) := by show _ = _; rw [hw9]; try simp
            have HWa : Hid (wa = w9.setCells g (b * 10) (oc x0)) := hwa
            have HI9 : Hid (w9.rangeAt g7 0 (oc x0)) := by
              have hlt := HRi.out.lt
              have : Opb w9 g7 x0 := Blk.past j1 (by rw [hw9]; exact grown_setCells _ _ _ _) (by omega)
              exact Blk.range0 this
            have HW7 : Hid (w7 = wi.alloc (.cells (oc oz).toArray 40)) := hw7
            have HG7 : Hid (g7 = wi.heap.size) := hg7
            have HW8 : Hid (w8 = w7.setCells g7 0 (oc x0)) := hw8
            have HRa : Hid (Row wa g N c5 ((m.set 0 xb).set b x0)) := hRa
            have HBa : Hid (Below w3.heap.size w3 wa) := bgrown (bnext HBd.out (bnext HBi.out j3)) (HN5.out g rfl) hga
            clear j1 j2 j3 j4 hw7 hg7 hw8 hw9 hwa hRa hga ht8 ht9 HS HRi HR8
            have tk1 : Hid True := trivial
            have tk2 : Hid True := trivial
            have tk3 : Hid True := trivial
            have tk4 : Hid True := trivial
            have tk5 : Hid True := trivial
            have tk6 : Hid True := trivial
            have tk7 : Hid True := trivial
            go_wp2_with (first
              | (clear tk1; refine wpList_okw rfl (exec_load40 (q := x0) (.tmp 101) rfl rfl HL0.out) ?_)
              | (clear tk2; refine wpList_okw rfl (exec_alloc40 rfl) ?_; rw [← HW7.out, ← HG7.out])
              | (clear tk3; refine wpList_skipw rfl (exec_store40 (q := x0) (.tmp 13) (.tmp 102) rfl rfl rfl HT7.out) ?_; rw [← HW8.out])
              | (clear tk4; refine wpList_okw rfl (exec_load40 (q := xb) (.tmp 107) rfl rfl HLb.out) ?_)
              | (clear tk5; refine wpList_skipw rfl (exec_store40 (q := xb) (.tmp 109) (.tmp 108) rfl rfl rfl HT8.out) ?_; rw [← HW9.out])
              | (clear tk6; refine wpList_okw rfl (exec_load40 (q := x0) (.tmp 13) rfl rfl HI9.out) ?_)
              | (clear tk7; refine wpList_skipw rfl (exec_store40 (q := x0) (.tmp 113) (.tmp 112) rfl rfl rfl HT9.out) ?_; rw [← HWa.out]))
            go_roundw
            case rel => exact ⟨k + 1, _, by go_num, by omega, HRa.out.1, HKs, HRa.out.2, HBa⟩
            case measure => simp [intOf]; omega
          · have HRi : Hid (Row wi g N c5 m) := HRow.out.below HBi.out
            go_wp2
            go_roundw
            case rel => exact ⟨k + 1, m, by go_num, by omega, hmN, HK, HRi.out.2, bnext HBd.out HBi.out⟩
            case measure => simp [intOf]; omega
    · by_cases hlt : k < T
      · have hkI : (k : Int) < (T : Int) := by omega
        have hNI : ¬ (0 : Int) < (N : Int) := by omega
        have HBo : Hid (Both wr tb rb mo (.slice a2 L.length c2) L L2 M) := HBo3.out.below HB.out
        have HBm : Hid (∀ w', Below wr.heap.size wr w' → Calls Try.prog 27 #[.slice a5 N c5] w' (BuildAns w' m)) := fun w' hb => by
          have hrow : RowF oc wr (.slice a5 N c5) m := by
            have := rowF_own oc_len (show wr.ownsRow 0 40 10 (.slice a5 N c5) m.length (flat oc m) from by rw [hmN]; exact HO.out)
            exact this
          exact build27 (hrow.below hb) (by omega) fun q hq => ⟨((HQ.out q ((HK.out.mem q).1 hq)).1).below (bnext HBW3.out (bnext HB.out hb)), (HQ.out q ((HK.out.mem q).1 hq)).2⟩
        have HCr : Hid (∀ z : WIn (fun w' => Below wr.heap.size wr w'), z.w.cell? ⟨rb, 0, none⟩ = some (.slice a2 L.length c2)) := fun z => (HBo.out.below z.ok).r.blk.cell 0 _ rfl
        have HBWr : Hid (Below W.heap.size W wr) := bnext HBW3.out HB.out
        by_cases hL : L.length = 0
        · have HLe : Hid (L.length = 0) := hL
          clear hL
          go_upto_region 19 with fail
          have cr := HCr.out
          have ne : Nonempty (WIn (fun w' => Below wr.heap.size wr w')) := ⟨⟨wr.drew, below_drewn wr 1⟩⟩
          refine wp_region_ord (C := fun w' => ∃ z : WIn (fun w' => Below wr.heap.size wr w'), w' = z.w) [(false, 0), (false, 3), (false, 4), (false, 5), (false, 6), (true, 1), (true, 2), (true, 7), (false, 8), (false, 9), (false, 10), (true, 11), (true, 12), (false, 13), (false, 14), (false, 15), (false, 16), (true, 17), (false, 18), (false, 19), (false, 20), (false, 23), (true, 21), (true, 22), (true, 24), (false, 25), (false, 26), (false, 27), (false, 28), (true, 29), (false, 30), (false, 31)] (by kernel_rfl) (by kernel_rfl) ⟨⟨wr.drew, below_drewn wr 1⟩, rfl⟩ ?_
          iterate 5 (refine ord_still rfl rfl ?_; go_big_quiet_step (fail); refine wpQuiet_nil ?_)
          refine ord_mem rfl rfl ?_
          go_simp
          refine (pall_was (HBo.out.below (below_drewn wr 1))).mono ?_
          rintro r u1 ⟨va, X, rfl, hw, hxm, hb⟩
          have HWX : Hid (Was u1 va X ∧ X.map IT.m = M) := ⟨hw, hxm⟩
          clear hw hxm
          have HU1 : Hid (Below wr.heap.size wr u1) := bnext (below_drewn wr 1) hb
          clear hb
          refine ⟨⟨⟨u1, HU1.out⟩, rfl⟩, ?_⟩
          go_simp
          refine ord_mem rfl rfl ?_
          go_simp
          refine (items16w HWX.out.1 (by have h1 := map_len HWX.out.2; have h2 := HBo.out.few; omega)).mono ?_
          rintro r u2 ⟨vb, rfl, hw, hb⟩
          have HWY : Hid (Was u2 vb X) := hw
          clear hw
          have HU2 : Hid (Below wr.heap.size wr u2) := bnext HU1.out hb
          clear hb
          refine ⟨⟨⟨u2, HU2.out⟩, rfl⟩, ?_⟩
          go_simp
          refine ord_mem rfl rfl ?_
          go_simp
          refine (same15w HWY.out (HBo.out.below HU2.out).was (HWX.out.2.trans HBo.out.rm.symm)).mono ?_
          rintro r u3 ⟨rfl, hb⟩
          have HU3 : Hid (Below wr.heap.size wr u3) := bnext HU2.out hb
          clear hb
          refine ⟨⟨⟨u3, HU3.out⟩, rfl⟩, ?_⟩
          go_simp
          iterate 3 (refine ord_still rfl rfl ?_; go_big_quiet_step (fail); refine wpQuiet_nil ?_)
          refine ord_mem rfl rfl ?_
          go_simp
          refine (HBm.out _ HU3.out).mono ?_
          rintro r u4 ⟨tb4, mo4, L4, O4, rfl, hP, hF, hM, _, _, _, hb⟩
          have HP4 : Hid (PTr u4 tb4 mo4 L4 ∧ L4.map IT.m = M) := ⟨hP, by rw [hM, HMO.out, hF.uniq HFo.out HK.out.symm]⟩
          clear hP hF hM
          have HU4 : Hid (Below wr.heap.size wr u4) := bnext HU3.out hb
          clear hb
          refine ⟨⟨⟨u4, HU4.out⟩, rfl⟩, ?_⟩
          go_simp
          refine ord_mem rfl rfl ?_
          go_simp
          refine (same29y (HBo.out.below HU4.out).p HP4.out.1 (HBo.out.pm.trans HP4.out.2.symm)).mono ?_
          rintro r u5 ⟨rfl, hb⟩
          have HU5 : Hid (Below wr.heap.size wr u5) := bnext HU4.out hb
          clear hb
          refine ⟨⟨⟨u5, HU5.out⟩, rfl⟩, ?_⟩
          go_simp
          iterate 4 (refine ord_still rfl rfl ?_; go_big_quiet_step (fail); refine wpQuiet_nil ?_)
          refine ord_mem rfl rfl ?_
          go_simp
          refine (same29y (HBo.out.below HU5.out).p (HBo.out.below HU5.out).p rfl).mono ?_
          rintro r u6 ⟨rfl, hb⟩
          have HU6 : Hid (Below wr.heap.size wr u6) := bnext HU5.out hb
          clear hb
          refine ⟨⟨⟨u6, HU6.out⟩, rfl⟩, ?_⟩
          go_simp
          iterate 4 (refine ord_still rfl rfl ?_; go_big_quiet_step (fail); refine wpQuiet_nil ?_)
          refine ord_mem rfl rfl ?_
          go_simp
          refine (new10 u6).mono ?_
          rintro r u7 ⟨rfl, hw⟩
          have HU7 : Hid (Below wr.heap.size wr u7) := (show Below _ _ _ from by rw [hw]; exact balloc HU6.out _)
          have HPn : Hid (PTr u7 u6.heap.size none []) := (show PTr _ _ _ _ from by rw [hw]; exact ptr_new u6)
          clear hw
          refine ⟨⟨⟨u7, HU7.out⟩, rfl⟩, ?_⟩
          go_simp
          refine ord_mem rfl rfl ?_
          go_simp
          refine (same29y (HBo.out.below HU7.out).p HPn.out (by rw [List.length_eq_zero_iff.1 HLe.out])).mono ?_
          rintro r u8 ⟨rfl, hb⟩
          have HU8 : Hid (Below wr.heap.size wr u8) := bnext HU7.out hb
          clear hb
          refine ⟨⟨⟨u8, HU8.out⟩, rfl⟩, ?_⟩
          go_simp
          refine ord_mem rfl rfl ?_
          go_simp
          refine (len18 (HBo.out.below HU8.out).p).mono ?_
          rintro r u9 ⟨rfl, hw⟩
          replace hw := hw.symm
          subst hw
          rw [HLe.out]
          refine ⟨⟨⟨u8, HU8.out⟩, rfl⟩, ?_⟩
          go_simp
          iterate 4 (refine ord_still rfl rfl ?_; go_big_quiet_step (fail); refine wpQuiet_nil ?_)
          refine ord_mem rfl rfl ?_
          go_simp
          refine (HAl.out _).mono ?_
          rintro r ua ⟨rfl, hb⟩
          have HUa : Hid (Below wr.heap.size wr ua) := bnext HU8.out hb
          clear hb
          refine ⟨⟨⟨ua, HUa.out⟩, rfl⟩, ?_⟩
          go_simp
          iterate 2 (refine ord_still rfl rfl ?_; go_big_quiet_step (fail); refine wpQuiet_nil ?_)
          refine ord_end ?_
          clear ne
          clear cr
          go_wp2
          go_ret
          exact ⟨rfl, bnext HBWr.out HUa.out⟩
        · have HLe : Hid (L.length ≠ 0) := hL
          have hLI : ((L.length : Int) == 0) = false := by rw [beq_eq_false_iff_ne]; have := HLe.out; omega
          clear hL
          go_upto_region 19 with fail
          have cr := HCr.out
          have ne : Nonempty (WIn (fun w' => Below wr.heap.size wr w')) := ⟨⟨wr.drew, below_drewn wr 1⟩⟩
          refine wp_region_ord (C := fun w' => ∃ z : WIn (fun w' => Below wr.heap.size wr w'), w' = z.w) [(false, 0), (false, 3), (false, 4), (false, 5), (false, 6), (true, 1), (true, 2), (true, 7), (false, 8), (false, 9), (false, 10), (true, 11), (true, 12), (false, 13), (false, 14), (false, 15), (false, 16), (true, 17), (false, 18), (false, 19), (false, 20), (false, 23), (true, 21), (true, 22), (true, 24), (false, 25), (false, 26), (false, 27), (false, 28), (true, 29), (false, 30), (false, 31)] (by kernel_rfl) (by kernel_rfl) ⟨⟨wr.drew, below_drewn wr 1⟩, rfl⟩ ?_
          iterate 5 (refine ord_still rfl rfl ?_; go_big_quiet_step (fail); refine wpQuiet_nil ?_)
          refine ord_mem rfl rfl ?_
          go_simp
          refine (pall_was (HBo.out.below (below_drewn wr 1))).mono ?_
          rintro r u1 ⟨va, X, rfl, hw, hxm, hb⟩
          have HWX : Hid (Was u1 va X ∧ X.map IT.m = M) := ⟨hw, hxm⟩
          clear hw hxm
          have HU1 : Hid (Below wr.heap.size wr u1) := bnext (below_drewn wr 1) hb
          clear hb
          refine ⟨⟨⟨u1, HU1.out⟩, rfl⟩, ?_⟩
          go_simp
          refine ord_mem rfl rfl ?_
          go_simp
          refine (items16w HWX.out.1 (by have h1 := map_len HWX.out.2; have h2 := HBo.out.few; omega)).mono ?_
          rintro r u2 ⟨vb, rfl, hw, hb⟩
          have HWY : Hid (Was u2 vb X) := hw
          clear hw
          have HU2 : Hid (Below wr.heap.size wr u2) := bnext HU1.out hb
          clear hb
          refine ⟨⟨⟨u2, HU2.out⟩, rfl⟩, ?_⟩
          go_simp
          refine ord_mem rfl rfl ?_
          go_simp
          refine (same15w HWY.out (HBo.out.below HU2.out).was (HWX.out.2.trans HBo.out.rm.symm)).mono ?_
          rintro r u3 ⟨rfl, hb⟩
          have HU3 : Hid (Below wr.heap.size wr u3) := bnext HU2.out hb
          clear hb
          refine ⟨⟨⟨u3, HU3.out⟩, rfl⟩, ?_⟩
          go_simp
          iterate 3 (refine ord_still rfl rfl ?_; go_big_quiet_step (fail); refine wpQuiet_nil ?_)
          refine ord_mem rfl rfl ?_
          go_simp
          refine (HBm.out _ HU3.out).mono ?_
          rintro r u4 ⟨tb4, mo4, L4, O4, rfl, hP, hF, hM, _, _, _, hb⟩
          have HP4 : Hid (PTr u4 tb4 mo4 L4 ∧ L4.map IT.m = M) := ⟨hP, by rw [hM, HMO.out, hF.uniq HFo.out HK.out.symm]⟩
          clear hP hF hM
          have HU4 : Hid (Below wr.heap.size wr u4) := bnext HU3.out hb
          clear hb
          refine ⟨⟨⟨u4, HU4.out⟩, rfl⟩, ?_⟩
          go_simp
          refine ord_mem rfl rfl ?_
          go_simp
          refine (same29y (HBo.out.below HU4.out).p HP4.out.1 (HBo.out.pm.trans HP4.out.2.symm)).mono ?_
          rintro r u5 ⟨rfl, hb⟩
          have HU5 : Hid (Below wr.heap.size wr u5) := bnext HU4.out hb
          clear hb
          refine ⟨⟨⟨u5, HU5.out⟩, rfl⟩, ?_⟩
          go_simp
          iterate 4 (refine ord_still rfl rfl ?_; go_big_quiet_step (fail); refine wpQuiet_nil ?_)
          refine ord_mem rfl rfl ?_
          go_simp
          refine (same29y (HBo.out.below HU5.out).p (HBo.out.below HU5.out).p rfl).mono ?_
          rintro r u6 ⟨rfl, hb⟩
          have HU6 : Hid (Below wr.heap.size wr u6) := bnext HU5.out hb
          clear hb
          refine ⟨⟨⟨u6, HU6.out⟩, rfl⟩, ?_⟩
          go_simp
          iterate 4 (refine ord_still rfl rfl ?_; go_big_quiet_step (fail); refine wpQuiet_nil ?_)
          refine ord_mem rfl rfl ?_
          go_simp
          refine (new10 u6).mono ?_
          rintro r u7 ⟨rfl, hw⟩
          have HU7 : Hid (Below wr.heap.size wr u7) := (show Below _ _ _ from by rw [hw]; exact balloc HU6.out _)
          have HPn : Hid (PTr u7 u6.heap.size none []) := (show PTr _ _ _ _ from by rw [hw]; exact ptr_new u6)
          clear hw
          refine ⟨⟨⟨u7, HU7.out⟩, rfl⟩, ?_⟩
          go_simp
          refine ord_mem rfl rfl ?_
          go_simp
          refine (same29n (HBo.out.below HU7.out).p HPn.out (by simpa using HLe.out)).mono ?_
          rintro r u8 ⟨rfl, hb⟩
          have HU8 : Hid (Below wr.heap.size wr u8) := bnext HU7.out hb
          clear hb
          refine ⟨⟨⟨u8, HU8.out⟩, rfl⟩, ?_⟩
          go_simp
          refine ord_mem rfl rfl ?_
          go_simp
          refine (len18 (HBo.out.below HU8.out).p).mono ?_
          rintro r u9 ⟨rfl, hw⟩
          replace hw := hw.symm
          subst hw
          refine ⟨⟨⟨u8, HU8.out⟩, rfl⟩, ?_⟩
          go_simp
          iterate 4 (refine ord_still rfl rfl ?_; go_big_quiet_step (fail); refine wpQuiet_nil ?_)
          refine ord_mem rfl rfl ?_
          go_simp
          refine (HAl.out _).mono ?_
          rintro r ua ⟨rfl, hb⟩
          have HUa : Hid (Below wr.heap.size wr ua) := bnext HU8.out hb
          clear hb
          refine ⟨⟨⟨ua, HUa.out⟩, rfl⟩, ?_⟩
          go_simp
          iterate 2 (refine ord_still rfl rfl ?_; go_big_quiet_step (fail); refine wpQuiet_nil ?_)
          refine ord_end ?_
          clear ne
          clear cr
          go_wp2
          go_ret
          exact ⟨rfl, bnext HBWr.out HUa.out⟩
      · have hkI : ¬ (k : Int) < (T : Int) := by omega
        have HBo : Hid (Both wr tb rb mo (.slice a2 L.length c2) L L2 M) := HBo3.out.below HB.out
        have HBm : Hid (∀ w', Below wr.heap.size wr w' → Calls Try.prog 27 #[.slice a5 N c5] w' (BuildAns w' m)) := fun w' hb => by
          have hrow : RowF oc wr (.slice a5 N c5) m := by
            have := rowF_own oc_len (show wr.ownsRow 0 40 10 (.slice a5 N c5) m.length (flat oc m) from by rw [hmN]; exact HO.out)
            exact this
          exact build27 (hrow.below hb) (by omega) fun q hq => ⟨((HQ.out q ((HK.out.mem q).1 hq)).1).below (bnext HBW3.out (bnext HB.out hb)), (HQ.out q ((HK.out.mem q).1 hq)).2⟩
        have HCr : Hid (∀ z : WIn (fun w' => Below wr.heap.size wr w'), z.w.cell? ⟨rb, 0, none⟩ = some (.slice a2 L.length c2)) := fun z => (HBo.out.below z.ok).r.blk.cell 0 _ rfl
        have HBWr : Hid (Below W.heap.size W wr) := bnext HBW3.out HB.out
        by_cases hL : L.length = 0
        · have HLe : Hid (L.length = 0) := hL
          clear hL
          go_upto_region 19 with fail
          have cr := HCr.out
          have ne : Nonempty (WIn (fun w' => Below wr.heap.size wr w')) := ⟨⟨wr.drew, below_drewn wr 1⟩⟩
          refine wp_region_ord (C := fun w' => ∃ z : WIn (fun w' => Below wr.heap.size wr w'), w' = z.w) [(false, 0), (false, 3), (false, 4), (false, 5), (false, 6), (true, 1), (true, 2), (true, 7), (false, 8), (false, 9), (false, 10), (true, 11), (true, 12), (false, 13), (false, 14), (false, 15), (false, 16), (true, 17), (false, 18), (false, 19), (false, 20), (false, 23), (true, 21), (true, 22), (true, 24), (false, 25), (false, 26), (false, 27), (false, 28), (true, 29), (false, 30), (false, 31)] (by kernel_rfl) (by kernel_rfl) ⟨⟨wr.drew, below_drewn wr 1⟩, rfl⟩ ?_
          iterate 5 (refine ord_still rfl rfl ?_; go_big_quiet_step (fail); refine wpQuiet_nil ?_)
          refine ord_mem rfl rfl ?_
          go_simp
          refine (pall_was (HBo.out.below (below_drewn wr 1))).mono ?_
          rintro r u1 ⟨va, X, rfl, hw, hxm, hb⟩
          have HWX : Hid (Was u1 va X ∧ X.map IT.m = M) := ⟨hw, hxm⟩
          clear hw hxm
          have HU1 : Hid (Below wr.heap.size wr u1) := bnext (below_drewn wr 1) hb
          clear hb
          refine ⟨⟨⟨u1, HU1.out⟩, rfl⟩, ?_⟩
          go_simp
          refine ord_mem rfl rfl ?_
          go_simp
          refine (items16w HWX.out.1 (by have h1 := map_len HWX.out.2; have h2 := HBo.out.few; omega)).mono ?_
          rintro r u2 ⟨vb, rfl, hw, hb⟩
          have HWY : Hid (Was u2 vb X) := hw
          clear hw
          have HU2 : Hid (Below wr.heap.size wr u2) := bnext HU1.out hb
          clear hb
          refine ⟨⟨⟨u2, HU2.out⟩, rfl⟩, ?_⟩
          go_simp
          refine ord_mem rfl rfl ?_
          go_simp
          refine (same15w HWY.out (HBo.out.below HU2.out).was (HWX.out.2.trans HBo.out.rm.symm)).mono ?_
          rintro r u3 ⟨rfl, hb⟩
          have HU3 : Hid (Below wr.heap.size wr u3) := bnext HU2.out hb
          clear hb
          refine ⟨⟨⟨u3, HU3.out⟩, rfl⟩, ?_⟩
          go_simp
          iterate 3 (refine ord_still rfl rfl ?_; go_big_quiet_step (fail); refine wpQuiet_nil ?_)
          refine ord_mem rfl rfl ?_
          go_simp
          refine (HBm.out _ HU3.out).mono ?_
          rintro r u4 ⟨tb4, mo4, L4, O4, rfl, hP, hF, hM, _, _, _, hb⟩
          have HP4 : Hid (PTr u4 tb4 mo4 L4 ∧ L4.map IT.m = M) := ⟨hP, by rw [hM, HMO.out, hF.uniq HFo.out HK.out.symm]⟩
          clear hP hF hM
          have HU4 : Hid (Below wr.heap.size wr u4) := bnext HU3.out hb
          clear hb
          refine ⟨⟨⟨u4, HU4.out⟩, rfl⟩, ?_⟩
          go_simp
          refine ord_mem rfl rfl ?_
          go_simp
          refine (same29y (HBo.out.below HU4.out).p HP4.out.1 (HBo.out.pm.trans HP4.out.2.symm)).mono ?_
          rintro r u5 ⟨rfl, hb⟩
          have HU5 : Hid (Below wr.heap.size wr u5) := bnext HU4.out hb
          clear hb
          refine ⟨⟨⟨u5, HU5.out⟩, rfl⟩, ?_⟩
          go_simp
          iterate 4 (refine ord_still rfl rfl ?_; go_big_quiet_step (fail); refine wpQuiet_nil ?_)
          refine ord_mem rfl rfl ?_
          go_simp
          refine (same29y (HBo.out.below HU5.out).p (HBo.out.below HU5.out).p rfl).mono ?_
          rintro r u6 ⟨rfl, hb⟩
          have HU6 : Hid (Below wr.heap.size wr u6) := bnext HU5.out hb
          clear hb
          refine ⟨⟨⟨u6, HU6.out⟩, rfl⟩, ?_⟩
          go_simp
          iterate 4 (refine ord_still rfl rfl ?_; go_big_quiet_step (fail); refine wpQuiet_nil ?_)
          refine ord_mem rfl rfl ?_
          go_simp
          refine (new10 u6).mono ?_
          rintro r u7 ⟨rfl, hw⟩
          have HU7 : Hid (Below wr.heap.size wr u7) := (show Below _ _ _ from by rw [hw]; exact balloc HU6.out _)
          have HPn : Hid (PTr u7 u6.heap.size none []) := (show PTr _ _ _ _ from by rw [hw]; exact ptr_new u6)
          clear hw
          refine ⟨⟨⟨u7, HU7.out⟩, rfl⟩, ?_⟩
          go_simp
          refine ord_mem rfl rfl ?_
          go_simp
          refine (same29y (HBo.out.below HU7.out).p HPn.out (by rw [List.length_eq_zero_iff.1 HLe.out])).mono ?_
          rintro r u8 ⟨rfl, hb⟩
          have HU8 : Hid (Below wr.heap.size wr u8) := bnext HU7.out hb
          clear hb
          refine ⟨⟨⟨u8, HU8.out⟩, rfl⟩, ?_⟩
          go_simp
          refine ord_mem rfl rfl ?_
          go_simp
          refine (len18 (HBo.out.below HU8.out).p).mono ?_
          rintro r u9 ⟨rfl, hw⟩
          replace hw := hw.symm
          subst hw
          rw [HLe.out]
          refine ⟨⟨⟨u8, HU8.out⟩, rfl⟩, ?_⟩
          go_simp
          iterate 4 (refine ord_still rfl rfl ?_; go_big_quiet_step (fail); refine wpQuiet_nil ?_)
          refine ord_mem rfl rfl ?_
          go_simp
          refine (HAl.out _).mono ?_
          rintro r ua ⟨rfl, hb⟩
          have HUa : Hid (Below wr.heap.size wr ua) := bnext HU8.out hb
          clear hb
          refine ⟨⟨⟨ua, HUa.out⟩, rfl⟩, ?_⟩
          go_simp
          iterate 2 (refine ord_still rfl rfl ?_; go_big_quiet_step (fail); refine wpQuiet_nil ?_)
          refine ord_end ?_
          clear ne
          clear cr
          go_wp2
          go_ret
          exact ⟨rfl, bnext HBWr.out HUa.out⟩
        · have HLe : Hid (L.length ≠ 0) := hL
          have hLI : ((L.length : Int) == 0) = false := by rw [beq_eq_false_iff_ne]; have := HLe.out; omega
          clear hL
          go_upto_region 19 with fail
          have cr := HCr.out
          have ne : Nonempty (WIn (fun w' => Below wr.heap.size wr w')) := ⟨⟨wr.drew, below_drewn wr 1⟩⟩
          refine wp_region_ord (C := fun w' => ∃ z : WIn (fun w' => Below wr.heap.size wr w'), w' = z.w) [(false, 0), (false, 3), (false, 4), (false, 5), (false, 6), (true, 1), (true, 2), (true, 7), (false, 8), (false, 9), (false, 10), (true, 11), (true, 12), (false, 13), (false, 14), (false, 15), (false, 16), (true, 17), (false, 18), (false, 19), (false, 20), (false, 23), (true, 21), (true, 22), (true, 24), (false, 25), (false, 26), (false, 27), (false, 28), (true, 29), (false, 30), (false, 31)] (by kernel_rfl) (by kernel_rfl) ⟨⟨wr.drew, below_drewn wr 1⟩, rfl⟩ ?_
          iterate 5 (refine ord_still rfl rfl ?_; go_big_quiet_step (fail); refine wpQuiet_nil ?_)
          refine ord_mem rfl rfl ?_
          go_simp
          refine (pall_was (HBo.out.below (below_drewn wr 1))).mono ?_
          rintro r u1 ⟨va, X, rfl, hw, hxm, hb⟩
          have HWX : Hid (Was u1 va X ∧ X.map IT.m = M) := ⟨hw, hxm⟩
          clear hw hxm
          have HU1 : Hid (Below wr.heap.size wr u1) := bnext (below_drewn wr 1) hb
          clear hb
          refine ⟨⟨⟨u1, HU1.out⟩, rfl⟩, ?_⟩
          go_simp
          refine ord_mem rfl rfl ?_
          go_simp
          refine (items16w HWX.out.1 (by have h1 := map_len HWX.out.2; have h2 := HBo.out.few; omega)).mono ?_
          rintro r u2 ⟨vb, rfl, hw, hb⟩
          have HWY : Hid (Was u2 vb X) := hw
          clear hw
          have HU2 : Hid (Below wr.heap.size wr u2) := bnext HU1.out hb
          clear hb
          refine ⟨⟨⟨u2, HU2.out⟩, rfl⟩, ?_⟩
          go_simp
          refine ord_mem rfl rfl ?_
          go_simp
          refine (same15w HWY.out (HBo.out.below HU2.out).was (HWX.out.2.trans HBo.out.rm.symm)).mono ?_
          rintro r u3 ⟨rfl, hb⟩
          have HU3 : Hid (Below wr.heap.size wr u3) := bnext HU2.out hb
          clear hb
          refine ⟨⟨⟨u3, HU3.out⟩, rfl⟩, ?_⟩
          go_simp
          iterate 3 (refine ord_still rfl rfl ?_; go_big_quiet_step (fail); refine wpQuiet_nil ?_)
          refine ord_mem rfl rfl ?_
          go_simp
          refine (HBm.out _ HU3.out).mono ?_
          rintro r u4 ⟨tb4, mo4, L4, O4, rfl, hP, hF, hM, _, _, _, hb⟩
          have HP4 : Hid (PTr u4 tb4 mo4 L4 ∧ L4.map IT.m = M) := ⟨hP, by rw [hM, HMO.out, hF.uniq HFo.out HK.out.symm]⟩
          clear hP hF hM
          have HU4 : Hid (Below wr.heap.size wr u4) := bnext HU3.out hb
          clear hb
          refine ⟨⟨⟨u4, HU4.out⟩, rfl⟩, ?_⟩
          go_simp
          refine ord_mem rfl rfl ?_
          go_simp
          refine (same29y (HBo.out.below HU4.out).p HP4.out.1 (HBo.out.pm.trans HP4.out.2.symm)).mono ?_
          rintro r u5 ⟨rfl, hb⟩
          have HU5 : Hid (Below wr.heap.size wr u5) := bnext HU4.out hb
          clear hb
          refine ⟨⟨⟨u5, HU5.out⟩, rfl⟩, ?_⟩
          go_simp
          iterate 4 (refine ord_still rfl rfl ?_; go_big_quiet_step (fail); refine wpQuiet_nil ?_)
          refine ord_mem rfl rfl ?_
          go_simp
          refine (same29y (HBo.out.below HU5.out).p (HBo.out.below HU5.out).p rfl).mono ?_
          rintro r u6 ⟨rfl, hb⟩
          have HU6 : Hid (Below wr.heap.size wr u6) := bnext HU5.out hb
          clear hb
          refine ⟨⟨⟨u6, HU6.out⟩, rfl⟩, ?_⟩
          go_simp
          iterate 4 (refine ord_still rfl rfl ?_; go_big_quiet_step (fail); refine wpQuiet_nil ?_)
          refine ord_mem rfl rfl ?_
          go_simp
          refine (new10 u6).mono ?_
          rintro r u7 ⟨rfl, hw⟩
          have HU7 : Hid (Below wr.heap.size wr u7) := (show Below _ _ _ from by rw [hw]; exact balloc HU6.out _)
          have HPn : Hid (PTr u7 u6.heap.size none []) := (show PTr _ _ _ _ from by rw [hw]; exact ptr_new u6)
          clear hw
          refine ⟨⟨⟨u7, HU7.out⟩, rfl⟩, ?_⟩
          go_simp
          refine ord_mem rfl rfl ?_
          go_simp
          refine (same29n (HBo.out.below HU7.out).p HPn.out (by simpa using HLe.out)).mono ?_
          rintro r u8 ⟨rfl, hb⟩
          have HU8 : Hid (Below wr.heap.size wr u8) := bnext HU7.out hb
          clear hb
          refine ⟨⟨⟨u8, HU8.out⟩, rfl⟩, ?_⟩
          go_simp
          refine ord_mem rfl rfl ?_
          go_simp
          refine (len18 (HBo.out.below HU8.out).p).mono ?_
          rintro r u9 ⟨rfl, hw⟩
          replace hw := hw.symm
          subst hw
          refine ⟨⟨⟨u8, HU8.out⟩, rfl⟩, ?_⟩
          go_simp
          iterate 4 (refine ord_still rfl rfl ?_; go_big_quiet_step (fail); refine wpQuiet_nil ?_)
          refine ord_mem rfl rfl ?_
          go_simp
          refine (HAl.out _).mono ?_
          rintro r ua ⟨rfl, hb⟩
          have HUa : Hid (Below wr.heap.size wr ua) := bnext HU8.out hb
          clear hb
          refine ⟨⟨⟨ua, HUa.out⟩, rfl⟩, ?_⟩
          go_simp
          iterate 2 (refine ord_still rfl rfl ?_; go_big_quiet_step (fail); refine wpQuiet_nil ?_)
          refine ord_end ?_
          clear ne
          clear cr
          go_wp2
          go_ret
          exact ⟨rfl, bnext HBWr.out HUa.out⟩
end
end Go.Proofs.Ytjlpdoomchkfgaa
