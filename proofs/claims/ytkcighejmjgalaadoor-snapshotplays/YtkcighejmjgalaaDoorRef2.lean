/-
  The reference of layer 10: number, Frame.
-/
import Derived.Test.YtkcighejmjgalaaDoorRef1
namespace Go.Proofs.YtkcighejmjgalaaDoor
set_option linter.unusedVariables false
set_option linter.unusedSimpArgs false
set_option synthInstance.maxSize 20000
set_option maxHeartbeats 2000000
set_option maxRecDepth 20000
open Go.RowKit Go.Maps

theorem rnumber40 {w : World} {v : Value} {l : List Int} (h : Rd w v l) (hl : 4 ≤ l.length) : Calls Tryd.prog 59 #[v] w fun r w' => r = .returned (.int .u32 (num4 l)) ∧ Below w.heap.size w w' := by
  obtain ⟨b, off, cap, rfl, hc1, hc2, hbw, hc⟩ := h.spot (by omega)
  have o0 := h.oct.at 0
  have o1 := h.oct.at 1
  have o2 := h.oct.at 2
  have o3 := h.oct.at 3
  have F : Four b off (l.getD 0 0) (l.getD 1 0) (l.getD 2 0) (l.getD 3 0) w := ⟨hc 0 (by omega), hc 1 (by omega), hc 2 (by omega), hc 3 (by omega)⟩
  have HV : Hid (l.getD 0 0 * 16777216 + l.getD 1 0 * 65536 + l.getD 2 0 * 256 + l.getD 3 0 = num4 l) := by
    show _ = _
    rfl
  generalize l.getD 0 0 = x0 at *
  generalize l.getD 1 0 = x1 at *
  generalize l.getD 2 0 = x2 at *
  generalize l.getD 3 0 = x3 at *
  generalize num4 l = N at *
  generalize l.length = n at *
  have ne : Nonempty (WIn (Four b off x0 x1 x2 x3)) := ⟨⟨w, F⟩⟩
  have e0 : ∀ z : WIn (Four b off x0 x1 x2 x3), z.w.cell? ⟨b, off, none⟩ = some (.int .u8 x0) := fun z => z.ok.c0
  have e1 : ∀ z : WIn (Four b off x0 x1 x2 x3), z.w.cell? ⟨b, off + 1, none⟩ = some (.int .u8 x1) := fun z => z.ok.c1
  have e2 : ∀ z : WIn (Four b off x0 x1 x2 x3), z.w.cell? ⟨b, off + 2, none⟩ = some (.int .u8 x2) := fun z => z.ok.c2
  have e3 : ∀ z : WIn (Four b off x0 x1 x2 x3), z.w.cell? ⟨b, off + 3, none⟩ = some (.int .u8 x3) := fun z => z.ok.c3
  have HFd : Hid (Four b off x0 x1 x2 x3 w.drew) := ⟨F.c0, F.c1, F.c2, F.c3⟩
  have HB : Hid (Below w.heap.size w w.drew) := (Below.refl _ _).drew
  clear h hc F
  go_enter Tryd.func59, Tryd.ntmps59
  go_upto_region 1 with fail
  refine wp_region_tree (C := fun w' => ∃ z : WIn (Four b off x0 x1 x2 x3), w' = z.w)
    (.still 0 (.still 1 (.still 2 (.still 3 (.still 4 (.still 5 (.still 6 (.still 7 (.still 8 (.still 9 (.still 10 (.still 11 (.still 12 (.still 13 (.still 14 (.still 15 (.still 16 (.still 17 (.still 18 (.still 19 (.still 20 (.still 21 (.still 22 .done)))))))))))))))))))))))
    (by kernel_rfl) (by kernel_rfl) ⟨⟨w.drew, HFd.out⟩, rfl⟩ ?_
  generalize w.drew = wd at *
  iterate 23 (refine tree_still rfl rfl ?_; go_big_quiet_step (fail); refine wpQuiet_nil ?_)
  refine tree_done ?_
  clear e0 e1 e2 e3 ne
  go_wp2
  go_ret
  exact ⟨by rw [← HV.out]; rfl, HB.out⟩

theorem Own.belowK {B : Nat} {e : TypeId} {w w' : World} {v : Value} {l : List Int} (h : Own B e w v l) (hb : Below w.heap.size w w') : Own B e w' v l := h.kept (below_grown hb)
/-- What the reference's Frame has behind i rounds. -/
structure RFr (w : World) (F : List (List Int)) (wr : World) (v : Value) (rs : List VB) (i : Nat) : Prop where
  rcs : RecAt w.heap.size wr v rs
  el : ∀ q ∈ rs, ∀ k, q.1.ownBlock = some k → w.heap.size ≤ k
  len : rs.length = i
  ll : LL rs = F.take i
  bel : Below w.heap.size w wr
  ow : ∀ q ∈ rs, Own w.heap.size 5 wr q.1 q.2
  ne : ∀ q ∈ rs, q.2 ≠ []
theorem RFr.step {w : World} {F : List (List Int)} {wr w1 w3 : World} {v v' ev : Value} {rs : List VB} {i : Nat} {s : List Int} (h : RFr w F wr v rs i) (hs : F[i]? = some s) (hb : Below wr.heap.size wr w1) (he : OutR wr.heap.size w1 ev s) (ho : Own w.heap.size 5 w1 ev s) (hse : s ≠ [])
    (k1 : w3.ownsRow 0 30 1 v' (rs ++ [(ev, s)]).length (flat lc (rs ++ [(ev, s)]))) (k2 : (w1.alloc (.cells #[ev] 30)).grownBy w3 v.ownBlock) (k3 : ∀ j, v'.ownBlock = some j → v.ownBlock = some j ∨ (w1.alloc (.cells #[ev] 30)).heap.size ≤ j) :
    RFr w F w3 v' (rs ++ [(ev, s)]) (i + 1) := by
  have hsz := hb.size
  have hb0 := h.bel.size
  obtain ⟨r1, r2⟩ := (h.rcs.below hb).add (by omega) he.1 (fun _ j hj e => by
    have h1 := he.2 j hj
    have h2 := (h.rcs.own.lt j e).2
    omega) k1 k2 k3
  have hap : ∀ j, ev.ownBlock = some j → v.ownBlock ≠ some j := fun j hj e => by
    have h1 := he.2 j hj
    have h2 := (h.rcs.own.lt j e).2
    omega
  refine ⟨r1, fun q hq k hk => ?_, by simp [h.len], ?_, (h.rcs.below hb).grown (bnext h.bel hb) (Nat.le_refl _) r2, fun q hq => ?_, fun q hq => ?_⟩
  · rcases List.mem_append.1 hq with hq | hq
    · exact h.el q hq k hk
    · simp at hq
      subst hq
      have := he.2 k hk
      omega
  · obtain ⟨h1, h2⟩ := List.getElem?_eq_some_iff.1 hs
    rw [List.take_succ_eq_append_getElem h1, ← h.ll, h2]
    simp [LL]
  · rcases List.mem_append.1 hq with hq | hq
    · have h1 := (h.ow q hq).belowK hb
      exact ⟨h1.1, ownsRow_block h1.2 (fun k hk => r2.block k (h1.2.lt k hk).2 (fun e => h.rcs.apart q hq (h.ne q hq) k hk e.symm))⟩
    · simp at hq
      subst hq
      exact ⟨ho.1, ownsRow_block ho.2 (fun k hk => r2.block k (ho.2.lt k hk).2 (fun e => hap k hk e.symm))⟩
  · rcases List.mem_append.1 hq with hq | hq
    · exact h.ne q hq
    · simp at hq
      subst hq
      exact hse
/-- What is handed out: slices of rows of one's own. -/
def OutO (B : Nat) (w' : World) (v : Value) (L : List (List Int)) : Prop := ∃ qs, RL w' v qs ∧ LL qs = L ∧ NewQ B v qs ∧ ∀ q ∈ qs, Own B 5 w' q.1 q.2
theorem outO_nil (B : Nat) (w : World) : OutO B w nilv [] := ⟨[], rl_nil w, rfl, newQ_nil _, fun q hq => by cases hq⟩
theorem OutO.l {B : Nat} {w : World} {v : Value} {L : List (List Int)} (h : OutO B w v L) : OutL B w v L := by
  obtain ⟨qs, h1, h2, h3, _⟩ := h
  exact ⟨qs, h1, h2, h3⟩
theorem partB_pad {gen round seq i n : Int} {x : List Int} (hx : x.length ≤ 48) : ([197] ++ be4 gen ++ be4 round ++ be4 seq ++ [i, n, (x.length : Int)] ++ x) ++ List.replicate (48 - x.length) 0 = partB gen round seq i n x := by
  simp [partB, be4]
def slen : Value → Nat
  | .slice _ n _ => n
  | _ => 0
theorem lenQ {Q : List Int} {k xn : Nat} (h : Q.length = 16 + xn) : (Q ++ List.replicate k 0 ++ [0]).length = 16 + xn + (k + 1) := by
  simp [h, Nat.add_assoc]
theorem lenR {rs : List VB} {q : VB} {i : Nat} (h : rs.length = i) : (rs ++ [q]).length = i + 1 := by simp [h]
theorem rframe11o {w : World} {gen round seq : Int} {bv : Value} {b : List Int} (hg : U32 gen) (hr : U32 round) (hs : U32 seq) (hb : Rd w bv b) (hl : b.length ≤ 1000000) :
    Calls Tryd.prog 70 #[.int .u32 gen, .int .u32 round, .int .u32 seq, bv] w fun r w' => ∃ v, r = .returned (.tuple #[v, .int .i64 (frameK gen round b)]) ∧ OutO w.heap.size w' v (frameB gen round seq b) ∧ Below w.heap.size w w' := by
  obtain ⟨ab, cb, rfl⟩ := hb.len
  by_cases h1 : 4000 < b.length
  · have e : frameK gen round b = 3 := if_pos h1
    rw [frame_none (by rw [e]; decide), e]
    have h1' : (4000 : Int) < b.length := by omega
    clear e hb
    go_enter Tryd.func70, Tryd.ntmps70
    go_wp2
    refine bodyPost_ret (results_tmp2 rfl _ _ _) rfl ⟨_, rfl, outO_nil _ _, Below.refl _ _⟩
  · by_cases h2 : gen = 0 ∨ round = 0
    · have e : frameK gen round b = 1 := by unfold frameK; rw [if_neg h1, if_pos h2]
      rw [frame_none (by rw [e]; decide), e]
      have h1' : ¬ (4000 : Int) < b.length := by omega
      clear e hb
      rcases h2 with h2 | h2
      · subst h2
        go_enter Tryd.func70, Tryd.ntmps70
        go_wp2
        refine bodyPost_ret (results_tmp2 rfl _ _ _) rfl ⟨_, rfl, outO_nil _ _, Below.refl _ _⟩
      · subst h2
        by_cases h3 : gen = 0
        · subst h3
          go_enter Tryd.func70, Tryd.ntmps70
          go_wp2
          refine bodyPost_ret (results_tmp2 rfl _ _ _) rfl ⟨_, rfl, outO_nil _ _, Below.refl _ _⟩
        · have h3' : (gen == 0) = false := by simpa using h3
          go_enter Tryd.func70, Tryd.ntmps70
          go_wp2
          refine bodyPost_ret (results_tmp2 rfl _ _ _) rfl ⟨_, rfl, outO_nil _ _, Below.refl _ _⟩
    · have e : frameK gen round b = 0 := by unfold frameK; rw [if_neg h1, if_neg h2]
      rw [frame_some e, e]
      have h1' : ¬ (4000 : Int) < b.length := by omega
      have h3 : (gen == 0) = false := by simp; omega
      have h4 : (round == 0) = false := by simp; omega
      have HP : Hid (Calls Tryd.prog 9 #[.int .i64 (b.length : Int)] w fun r w' => r = .returned (.int .i64 ((partsN b.length : Nat) : Int)) ∧ w' = w) := by
        have := rparts14 (b.length : Int) w (by unfold I64; omega)
        rwa [partsI_nat (by omega)] at this
      have hpl : partsN b.length ≤ 84 := partsN_le (by omega)
      have hcb := hb.cap
      obtain ⟨m, hm⟩ : ∃ m, m = partsN b.length := ⟨_, rfl⟩
      have HM : Hid (m = partsN b.length) := hm
      obtain ⟨L, hL⟩ : ∃ L, L = b.length := ⟨_, rfl⟩
      have HL : Hid (L = b.length) := hL
      have HR : Hid (Rd w (.slice ab L cb) b) := by
        rw [HL.out]
        exact hb
      have H48 : Hid (∀ i, i < m → 48 * i ≤ b.length) := fun i hi => by
        have : i < partsN b.length := by rw [← hm]; exact hi
        unfold partsN at this
        split at this <;> omega
      rw [← hm] at HP hpl
      rw [← hL] at HP h1' hcb ⊢
      have hc1 : L ≤ cb := hcb.2.1
      have hc2 : cb ≤ 9223372036854775807 := hcb.2.2
      have hF : RFr w (frameL gen round seq b) w nilv [] 0 := ⟨recAt_nil _ _, (fun q hq => by cases hq), rfl, rfl, Below.refl _ _, (fun q hq => by cases hq), (fun q hq => by cases hq)⟩
      clear e h1 h2 hb hm hL hcb
      go_enter Tryd.func70, Tryd.ntmps70
      go_wp2_with (go_at_call 9; go_must (refine HP.out.mono ?_; rintro r w2 ⟨rfl, hw2⟩; replace hw2 := hw2.symm; subst hw2))
      have hF' : Hid (RFr w (frameL gen round seq b) w (.slice none ([] : List VB).length 0) [] 0) := hF
      clear hF
      go_loopw [10, 12] (fun ov iv wr => ∃ (i : Nat) (rs : List VB) (ra : Option Addr) (rc : Nat), i ≤ m ∧ iv = .int .i64 i ∧ ov = .slice ra i rc ∧ Hid (RFr w (frameL gen round seq b) wr (.slice ra i rc) rs i)) (fun _ iv _ => m - (intOf iv).toNat)
      case atStart => exact ⟨0, [], none, 0, Nat.zero_le _, rfl, rfl, hF'⟩
      case round =>
        obtain ⟨i, rs, ra, rc, hi, rfl, rfl, hK⟩ := hrel
        by_cases hlt : i < m
        · have h48 := H48.out i hlt
          rw [← HL.out] at h48
          obtain ⟨en, hen⟩ : ∃ en, en = min (48 * i + 48) L := ⟨_, rfl⟩
          have hmin : (if (L : Int) < 48 * (i : Int) + 48 then (L : Int) else 48 * (i : Int) + 48) = (en : Int) := by split <;> omega
          have he1 : 48 * i ≤ en := by omega
          have he2 : en ≤ L := by omega
          have HEN : Hid (en = min (48 * i + 48) L) := hen
          clear hen
          by_cases hct : cb = 48 * i
          · obtain ⟨xn, hxn⟩ : ∃ xn, L - 48 * i = xn := ⟨_, rfl⟩
            have HX : Hid (Rd w (.slice ab xn 0) (chunk b i)) := by
              have h9 := rd_cut0 (s := 48 * i) (l := b) (a := ab) (w := w) (by rw [← HL.out, ← hct]; exact HR.out) (by rw [← HL.out]; omega)
              rw [← HL.out, hxn] at h9
              have e9 : chunk b i = b.drop (48 * i) := by
                unfold chunk
                rw [List.take_of_length_le (by rw [List.length_drop, ← HL.out]; omega)]
              rw [e9]
              exact h9
            have HXL : Hid (xn = (chunk b i).length ∧ xn ≤ 48) := by
              have h8 := chunk_len b i
              have h7 := HX.out.cap
              exact ⟨h7.1, by omega⟩
            generalize wr = wo at *
            subst hct
            skip
            go_wp2_with fail
            refine (four36 gen _ hg).mono ?_
            rintro r u1 ⟨rfl, rd1, hb1⟩
            have OW1 : Hid (Own wo.heap.size 5 u1 (.slice (some ⟨wo.heap.size, 0, none⟩) 1 1) [197]) := (own_one wo 197 5 (by omega)).belowK hb1
            have BW1 : Hid (Below wo.heap.size wo u1) := bnext (balloc (Below.refl _ _) _) hb1
            have RD1 : Hid (Rd u1 (.slice (some ⟨wo.heap.size + 1, 0, none⟩) 4 4) (be4 gen)) := by
              rw [show (wo.alloc (.cells #[.int .u8 197] 5)).heap.size = wo.heap.size + 1 by simp] at rd1
              exact rd1
            clear rd1 hb1
            go_wp2_with (at_builtin; go_must (refine wpList_append_cells 30 5 byteTy rfl (.tmp 42) (.tmp 44) rfl wo.heap.size _ ([197]) rfl OW1.out _ (be4 gen) rfl RD1.out (by simp [be4_len]) BW1.out.size ?_; intro v2 u2 ow2 g2; obtain ⟨av2, cv2, hv2⟩ := ow2.rd.len; subst hv2; have BW2 : Hid (Below wo.heap.size wo u2) := Own.below OW1.out BW1.out (Nat.le_refl _) g2; have OW2 : Hid (Own wo.heap.size 5 u2 (.slice av2 ([197] ++ be4 gen).length cv2) ([197] ++ be4 gen)) := ow2; clear ow2 g2))
            refine (four36 round _ hr).mono ?_
            rintro r u3 ⟨rfl, rd3, hb3⟩
            have OW3 : Hid (Own wo.heap.size 5 u3 (.slice av2 ([197] ++ be4 gen).length cv2) ([197] ++ be4 gen)) := OW2.out.belowK hb3
            have BW3 : Hid (Below wo.heap.size wo u3) := bnext BW2.out hb3
            have RD3 : Hid (Rd u3 (.slice (some ⟨u2.heap.size, 0, none⟩) 4 4) (be4 round)) := rd3
            clear rd3 hb3 OW2 BW2 RD1 OW1 BW1
            go_wp2_with (at_builtin; go_must (refine wpList_append_cells 30 5 byteTy rfl (.tmp 45) (.tmp 47) rfl wo.heap.size _ ([197] ++ be4 gen) rfl OW3.out _ (be4 round) rfl RD3.out (by simp [be4_len]) BW3.out.size ?_; intro v4 u4 ow4 g4; obtain ⟨av4, cv4, hv4⟩ := ow4.rd.len; subst hv4; have BW4 : Hid (Below wo.heap.size wo u4) := Own.below OW3.out BW3.out (Nat.le_refl _) g4; have OW4 : Hid (Own wo.heap.size 5 u4 (.slice av4 ([197] ++ be4 gen ++ be4 round).length cv4) ([197] ++ be4 gen ++ be4 round)) := ow4; clear ow4 g4))
            refine (four36 seq _ hs).mono ?_
            rintro r u5 ⟨rfl, rd5, hb5⟩
            have OW5 : Hid (Own wo.heap.size 5 u5 (.slice av4 ([197] ++ be4 gen ++ be4 round).length cv4) ([197] ++ be4 gen ++ be4 round)) := OW4.out.belowK hb5
            have BW5 : Hid (Below wo.heap.size wo u5) := bnext BW4.out hb5
            have RD5 : Hid (Rd u5 (.slice (some ⟨u4.heap.size, 0, none⟩) 4 4) (be4 seq)) := rd5
            clear rd5 hb5 OW4 BW4 RD3 OW3 BW3
            have tk : Hid True := trivial
            go_wp2_with (first
              | (at_builtin; clear tk; go_must (refine wpList_append_cells 30 5 byteTy rfl (.tmp 48) (.tmp 50) rfl wo.heap.size _ ([197] ++ be4 gen ++ be4 round) rfl OW5.out _ (be4 seq) rfl RD5.out (by simp [be4_len]) BW5.out.size ?_; intro v6 u6 ow6 g6; obtain ⟨av6, cv6, hv6⟩ := ow6.rd.len; subst hv6; have BW6 : Hid (Below wo.heap.size wo u6) := Own.below OW5.out BW5.out (Nat.le_refl _) g6; have OW6 : Hid (Own wo.heap.size 5 u6 (.slice av6 ([197] ++ be4 gen ++ be4 round ++ be4 seq).length cv6) ([197] ++ be4 gen ++ be4 round ++ be4 seq)) := ow6; clear ow6 g6; have tk2 : Hid True := trivial))
              | (at_builtin; clear tk2; go_must (refine wpList_append_cells 30 5 byteTy rfl (.tmp 52) (.tmp 60) rfl wo.heap.size _ ([197] ++ be4 gen ++ be4 round ++ be4 seq) rfl (OW6.out.alloc _) _ [(i : Int), (m : Int), (xn : Int)] rfl (rd_new3 u6 _ _ _ (by omega) (by omega) (by omega)) (by simp [be4_len]) (by have := BW6.out.size; simp; omega) ?_; intro v7 u7 ow7 g7; obtain ⟨av7, cv7, hv7⟩ := ow7.rd.len; subst hv7; have BW7 : Hid (Below wo.heap.size wo u7) := Own.below (OW6.out.alloc _) (balloc BW6.out _) (Nat.le_refl _) g7; have OW7 : Hid (Own wo.heap.size 5 u7 (.slice av7 ([197] ++ be4 gen ++ be4 round ++ be4 seq ++ [(i : Int), (m : Int), (xn : Int)]).length cv7) ([197] ++ be4 gen ++ be4 round ++ be4 seq ++ [(i : Int), (m : Int), (xn : Int)])) := ow7; clear ow7 g7; have tk3 : Hid True := trivial))
              | (at_builtin; clear tk3; go_must (refine wpList_append_cells 30 5 byteTy rfl (.tmp 61) (.tmp 62) rfl wo.heap.size _ ([197] ++ be4 gen ++ be4 round ++ be4 seq ++ [(i : Int), (m : Int), (xn : Int)]) rfl OW7.out _ (chunk b i) rfl (HX.out.below (bnext hK.out.bel BW7.out)) (by have := HXL.out; simp [be4_len]; omega) BW7.out.size ?_; intro v8 u8 ow8 g8; have BW8 : Hid (Below wo.heap.size wo u8) := Own.below OW7.out BW7.out (Nat.le_refl _) g8; have OW8 : Hid (Own wo.heap.size 5 u8 v8 ([197] ++ be4 gen ++ be4 round ++ be4 seq ++ [(i : Int), (m : Int), (xn : Int)] ++ chunk b i)) := ow8; clear ow8 g8)))
            obtain ⟨Q, hQ⟩ : ∃ Q, Q = [197] ++ be4 gen ++ be4 round ++ be4 seq ++ [(i : Int), (m : Int), (xn : Int)] ++ chunk b i := ⟨_, rfl⟩
            have HQ : Hid (Q = [197] ++ be4 gen ++ be4 round ++ be4 seq ++ [(i : Int), (m : Int), (xn : Int)] ++ chunk b i) := hQ
            have hQl : Q.length = 16 + xn := by
              rw [hQ]
              have := HXL.out.1
              simp [be4_len]
              omega
            rw [← hQ] at OW8
            obtain ⟨av8, cv8, hv8⟩ := OW8.out.rd.len
            rw [hQl] at hv8
            subst hv8
            have HQL : Hid (Q.length = 16 + xn) := hQl
            have hx48 : xn ≤ 48 := HXL.out.2
            have HO8 : Hid (Own wo.heap.size 5 u8 (.slice av8 (16 + xn + 0) cv8) (Q ++ List.replicate 0 0)) := by
              rw [List.replicate_zero, List.append_nil]
              exact OW8.out
            clear hQ hQl OW8 OW7 BW7 OW6 BW6 OW5 BW5 RD5
            go_loopw [14] (fun sv wr => ∃ (k : Nat) (sa : Option Addr) (sc : Nat), 16 + xn + k ≤ 64 ∧ sv = .slice sa (16 + xn + k) sc ∧ Hid (Own wo.heap.size 5 wr (.slice sa (16 + xn + k) sc) (Q ++ List.replicate k 0)) ∧ Hid (Below wo.heap.size wo wr)) (fun sv _ => 64 - slen sv)
            case atStart => exact ⟨0, av8, cv8, by omega, rfl, HO8, BW8⟩
            case round =>
              obtain ⟨k, sa, sc, hk, rfl, hO, hBo⟩ := hrel
              have hsc := hO.out.rd.cap
              have hsc1 : 16 + xn + k ≤ sc := hsc.2.1
              have hsc2 : sc ≤ 9223372036854775807 := hsc.2.2
              clear hsc
              by_cases hlt2 : 16 + xn + k < 64
              · go_wp2_with (at_builtin; go_must (refine wpList_append_cells 30 5 byteTy rfl (.tmp 67) (.tmp 68) rfl wo.heap.size _ (Q ++ List.replicate k 0) rfl (hO.out.alloc _) _ [0] rfl (rd_one wr 0 5 (by omega)) (by have := HQL.out; simp; omega) (by have := hBo.out.size; simp; omega) ?_; intro v9 u9 ow9 g9; obtain ⟨av9, cv9, hv9⟩ := ow9.rd.len; have BW9 : Hid (Below wo.heap.size wo u9) := Own.below (hO.out.alloc _) (balloc hBo.out _) (Nat.le_refl _) g9; rw [lenQ (k := k) HQL.out] at hv9; subst hv9; rw [List.append_assoc, show List.replicate k (0 : Int) ++ [0] = List.replicate (k + 1) 0 from List.replicate_succ'.symm] at ow9; have OW9 : Hid (Own wo.heap.size 5 u9 (.slice av9 (16 + xn + (k + 1)) cv9) (Q ++ List.replicate (k + 1) 0)) := ow9; clear ow9 g9))
                go_roundw
                case rel => exact ⟨k + 1, av9, cv9, by omega, rfl, OW9, BW9⟩
                case measure => simp [slen]; omega
              · have hk48 : k = 48 - xn := by omega
                have HPB : Hid (Q ++ List.replicate k 0 = partB gen round seq i m (chunk b i)) := by
                  show _ = _
                  have h9 := HXL.out.1
                  rw [HQ.out, hk48, h9]
                  exact partB_pad (chunk_len b i)
                have HOO : Hid (Own wo.heap.size 5 wr (.slice sa (16 + xn + k) sc) (partB gen round seq i m (chunk b i))) := by
                  rw [← HPB.out]
                  exact hO.out
                have HOR : Hid (OutR wo.heap.size wr (.slice sa (16 + xn + k) sc) (partB gen round seq i m (chunk b i))) := by
                  rw [HPB.out] at hO
                  exact ⟨hO.out.rd, fun k hk => (hO.out.2.lt k hk).1⟩
                have hFi : (frameL gen round seq b)[i]? = some (partB gen round seq i m (chunk b i)) := by
                  rw [HM.out]
                  exact frameL_at (by rw [← HM.out]; exact hlt)
                have HStep : Hid (∀ w3 v', w3.ownsRow 0 30 1 v' (rs ++ [(Value.slice sa (16 + xn + k) sc, partB gen round seq i m (chunk b i))]).length (flat lc (rs ++ [(Value.slice sa (16 + xn + k) sc, partB gen round seq i m (chunk b i))])) → (wr.alloc (.cells #[.slice sa (16 + xn + k) sc] 30)).grownBy w3 (Value.slice ra i rc).ownBlock → (∀ j, v'.ownBlock = some j → (Value.slice ra i rc).ownBlock = some j ∨ (wr.alloc (.cells #[.slice sa (16 + xn + k) sc] 30)).heap.size ≤ j) → RFr w (frameL gen round seq b) w3 v' (rs ++ [(Value.slice sa (16 + xn + k) sc, partB gen round seq i m (chunk b i))]) (i + 1)) := fun w3 v' k1 k2 k3 => hK.out.step hFi hBo.out HOR.out (HOO.out.lower hK.out.bel.size) (fun e => by cases e) k1 k2 k3
                have HRow : Hid ((wr.alloc (.cells #[.slice sa (16 + xn + k) sc] 30)).ownsRow 0 30 1 (.slice ra i rc) rs.length (flat lc rs)) := ((hK.out.rcs.below hBo.out).own).alloc _
                have HRL : Hid (rs.length = i) := hK.out.len
                generalize partB gen round seq i m (chunk b i) = PB at *
                clear hO HOR HOO hFi HPB hk48 hk
                go_wp2_with (at_builtin; go_must (refine wpList_append_rows ty25 lc_len (by omega) rfl (.tmp 70) (.tmp 72) rfl _ rs rfl HRow.out _ [(.slice sa (16 + xn + k) sc, PB)] rfl (rowF_one (f := lc) wr (.slice sa (16 + xn + k) sc, PB) 30) (flat_lc_one _ (fun q hq => by simp at hq; subst hq; rfl)) (by have := HRL.out; simp; omega) ?_; intro v3 w3 k1 k2 k3; have HF3 : Hid (RFr w (frameL gen round seq b) w3 v3 (rs ++ [(Value.slice sa (16 + xn + k) sc, PB)]) (i + 1)) := HStep.out w3 v3 k1 k2 k3; obtain ⟨a3, c3, hv3, hc31, hc32⟩ := slice_of_own k1; rw [lenR HRL.out] at hv3; subst hv3; clear k1 k2 k3))
                go_roundw
                case rel => exact ⟨i + 1, rs ++ [(.slice sa (16 + xn + k) sc, PB)], a3, c3, by omega, by go_num, rfl, HF3⟩
                case measure => simp [intOf]; omega
          · obtain ⟨xn, hxn⟩ : ∃ xn, en - 48 * i = xn := ⟨_, rfl⟩
            have HX : Hid (Rd w (.slice (Option.map (fun x => x.add (48 * i)) ab) xn (cb - 48 * i)) (chunk b i)) := by
              have h9 := rd_cut (s := 48 * i) (l := b) (a := ab) (w := w) (cap := cb) (by rw [← HL.out]; exact HR.out) (by rw [← HL.out]; omega) hct
              rw [← HL.out] at h9
              have h10 := rd_head (s := xn) (l := b.drop (48 * i)) (by rw [List.length_drop, ← HL.out]; exact h9) (by rw [List.length_drop, ← HL.out]; omega)
              have e9 : chunk b i = (b.drop (48 * i)).take xn := by
                unfold chunk
                by_cases h48' : 48 ≤ L - 48 * i
                · rw [show xn = 48 by have := HEN.out; omega]
                · rw [List.take_of_length_le (by rw [List.length_drop, ← HL.out]; omega), List.take_of_length_le (by rw [List.length_drop, ← HL.out]; have := HEN.out; omega)]
              rw [e9]
              exact h10
            have HXL : Hid (xn = (chunk b i).length ∧ xn ≤ 48) := by
              have h8 := chunk_len b i
              have h7 := HX.out.cap
              exact ⟨h7.1, by omega⟩
            generalize wr = wo at *
            go_wp2_with fail
            refine (four36 gen _ hg).mono ?_
            rintro r u1 ⟨rfl, rd1, hb1⟩
            have OW1 : Hid (Own wo.heap.size 5 u1 (.slice (some ⟨wo.heap.size, 0, none⟩) 1 1) [197]) := (own_one wo 197 5 (by omega)).belowK hb1
            have BW1 : Hid (Below wo.heap.size wo u1) := bnext (balloc (Below.refl _ _) _) hb1
            have RD1 : Hid (Rd u1 (.slice (some ⟨wo.heap.size + 1, 0, none⟩) 4 4) (be4 gen)) := by
              rw [show (wo.alloc (.cells #[.int .u8 197] 5)).heap.size = wo.heap.size + 1 by simp] at rd1
              exact rd1
            clear rd1 hb1
            go_wp2_with (at_builtin; go_must (refine wpList_append_cells 30 5 byteTy rfl (.tmp 42) (.tmp 44) rfl wo.heap.size _ ([197]) rfl OW1.out _ (be4 gen) rfl RD1.out (by simp [be4_len]) BW1.out.size ?_; intro v2 u2 ow2 g2; obtain ⟨av2, cv2, hv2⟩ := ow2.rd.len; subst hv2; have BW2 : Hid (Below wo.heap.size wo u2) := Own.below OW1.out BW1.out (Nat.le_refl _) g2; have OW2 : Hid (Own wo.heap.size 5 u2 (.slice av2 ([197] ++ be4 gen).length cv2) ([197] ++ be4 gen)) := ow2; clear ow2 g2))
            refine (four36 round _ hr).mono ?_
            rintro r u3 ⟨rfl, rd3, hb3⟩
            have OW3 : Hid (Own wo.heap.size 5 u3 (.slice av2 ([197] ++ be4 gen).length cv2) ([197] ++ be4 gen)) := OW2.out.belowK hb3
            have BW3 : Hid (Below wo.heap.size wo u3) := bnext BW2.out hb3
            have RD3 : Hid (Rd u3 (.slice (some ⟨u2.heap.size, 0, none⟩) 4 4) (be4 round)) := rd3
            clear rd3 hb3 OW2 BW2 RD1 OW1 BW1
            go_wp2_with (at_builtin; go_must (refine wpList_append_cells 30 5 byteTy rfl (.tmp 45) (.tmp 47) rfl wo.heap.size _ ([197] ++ be4 gen) rfl OW3.out _ (be4 round) rfl RD3.out (by simp [be4_len]) BW3.out.size ?_; intro v4 u4 ow4 g4; obtain ⟨av4, cv4, hv4⟩ := ow4.rd.len; subst hv4; have BW4 : Hid (Below wo.heap.size wo u4) := Own.below OW3.out BW3.out (Nat.le_refl _) g4; have OW4 : Hid (Own wo.heap.size 5 u4 (.slice av4 ([197] ++ be4 gen ++ be4 round).length cv4) ([197] ++ be4 gen ++ be4 round)) := ow4; clear ow4 g4))
            refine (four36 seq _ hs).mono ?_
            rintro r u5 ⟨rfl, rd5, hb5⟩
            have OW5 : Hid (Own wo.heap.size 5 u5 (.slice av4 ([197] ++ be4 gen ++ be4 round).length cv4) ([197] ++ be4 gen ++ be4 round)) := OW4.out.belowK hb5
            have BW5 : Hid (Below wo.heap.size wo u5) := bnext BW4.out hb5
            have RD5 : Hid (Rd u5 (.slice (some ⟨u4.heap.size, 0, none⟩) 4 4) (be4 seq)) := rd5
            clear rd5 hb5 OW4 BW4 RD3 OW3 BW3
            have tk : Hid True := trivial
            go_wp2_with (first
              | (at_builtin; clear tk; go_must (refine wpList_append_cells 30 5 byteTy rfl (.tmp 48) (.tmp 50) rfl wo.heap.size _ ([197] ++ be4 gen ++ be4 round) rfl OW5.out _ (be4 seq) rfl RD5.out (by simp [be4_len]) BW5.out.size ?_; intro v6 u6 ow6 g6; obtain ⟨av6, cv6, hv6⟩ := ow6.rd.len; subst hv6; have BW6 : Hid (Below wo.heap.size wo u6) := Own.below OW5.out BW5.out (Nat.le_refl _) g6; have OW6 : Hid (Own wo.heap.size 5 u6 (.slice av6 ([197] ++ be4 gen ++ be4 round ++ be4 seq).length cv6) ([197] ++ be4 gen ++ be4 round ++ be4 seq)) := ow6; clear ow6 g6; have tk2 : Hid True := trivial))
              | (at_builtin; clear tk2; go_must (refine wpList_append_cells 30 5 byteTy rfl (.tmp 52) (.tmp 60) rfl wo.heap.size _ ([197] ++ be4 gen ++ be4 round ++ be4 seq) rfl (OW6.out.alloc _) _ [(i : Int), (m : Int), (xn : Int)] rfl (rd_new3 u6 _ _ _ (by omega) (by omega) (by omega)) (by simp [be4_len]) (by have := BW6.out.size; simp; omega) ?_; intro v7 u7 ow7 g7; obtain ⟨av7, cv7, hv7⟩ := ow7.rd.len; subst hv7; have BW7 : Hid (Below wo.heap.size wo u7) := Own.below (OW6.out.alloc _) (balloc BW6.out _) (Nat.le_refl _) g7; have OW7 : Hid (Own wo.heap.size 5 u7 (.slice av7 ([197] ++ be4 gen ++ be4 round ++ be4 seq ++ [(i : Int), (m : Int), (xn : Int)]).length cv7) ([197] ++ be4 gen ++ be4 round ++ be4 seq ++ [(i : Int), (m : Int), (xn : Int)])) := ow7; clear ow7 g7; have tk3 : Hid True := trivial))
              | (at_builtin; clear tk3; go_must (refine wpList_append_cells 30 5 byteTy rfl (.tmp 61) (.tmp 62) rfl wo.heap.size _ ([197] ++ be4 gen ++ be4 round ++ be4 seq ++ [(i : Int), (m : Int), (xn : Int)]) rfl OW7.out _ (chunk b i) rfl (HX.out.below (bnext hK.out.bel BW7.out)) (by have := HXL.out; simp [be4_len]; omega) BW7.out.size ?_; intro v8 u8 ow8 g8; have BW8 : Hid (Below wo.heap.size wo u8) := Own.below OW7.out BW7.out (Nat.le_refl _) g8; have OW8 : Hid (Own wo.heap.size 5 u8 v8 ([197] ++ be4 gen ++ be4 round ++ be4 seq ++ [(i : Int), (m : Int), (xn : Int)] ++ chunk b i)) := ow8; clear ow8 g8)))
            obtain ⟨Q, hQ⟩ : ∃ Q, Q = [197] ++ be4 gen ++ be4 round ++ be4 seq ++ [(i : Int), (m : Int), (xn : Int)] ++ chunk b i := ⟨_, rfl⟩
            have HQ : Hid (Q = [197] ++ be4 gen ++ be4 round ++ be4 seq ++ [(i : Int), (m : Int), (xn : Int)] ++ chunk b i) := hQ
            have hQl : Q.length = 16 + xn := by
              rw [hQ]
              have := HXL.out.1
              simp [be4_len]
              omega
            rw [← hQ] at OW8
            obtain ⟨av8, cv8, hv8⟩ := OW8.out.rd.len
            rw [hQl] at hv8
            subst hv8
            have HQL : Hid (Q.length = 16 + xn) := hQl
            have hx48 : xn ≤ 48 := HXL.out.2
            have HO8 : Hid (Own wo.heap.size 5 u8 (.slice av8 (16 + xn + 0) cv8) (Q ++ List.replicate 0 0)) := by
              rw [List.replicate_zero, List.append_nil]
              exact OW8.out
            clear hQ hQl OW8 OW7 BW7 OW6 BW6 OW5 BW5 RD5
            go_loopw [14] (fun sv wr => ∃ (k : Nat) (sa : Option Addr) (sc : Nat), 16 + xn + k ≤ 64 ∧ sv = .slice sa (16 + xn + k) sc ∧ Hid (Own wo.heap.size 5 wr (.slice sa (16 + xn + k) sc) (Q ++ List.replicate k 0)) ∧ Hid (Below wo.heap.size wo wr)) (fun sv _ => 64 - slen sv)
            case atStart => exact ⟨0, av8, cv8, by omega, rfl, HO8, BW8⟩
            case round =>
              obtain ⟨k, sa, sc, hk, rfl, hO, hBo⟩ := hrel
              have hsc := hO.out.rd.cap
              have hsc1 : 16 + xn + k ≤ sc := hsc.2.1
              have hsc2 : sc ≤ 9223372036854775807 := hsc.2.2
              clear hsc
              by_cases hlt2 : 16 + xn + k < 64
              · go_wp2_with (at_builtin; go_must (refine wpList_append_cells 30 5 byteTy rfl (.tmp 67) (.tmp 68) rfl wo.heap.size _ (Q ++ List.replicate k 0) rfl (hO.out.alloc _) _ [0] rfl (rd_one wr 0 5 (by omega)) (by have := HQL.out; simp; omega) (by have := hBo.out.size; simp; omega) ?_; intro v9 u9 ow9 g9; obtain ⟨av9, cv9, hv9⟩ := ow9.rd.len; have BW9 : Hid (Below wo.heap.size wo u9) := Own.below (hO.out.alloc _) (balloc hBo.out _) (Nat.le_refl _) g9; rw [lenQ (k := k) HQL.out] at hv9; subst hv9; rw [List.append_assoc, show List.replicate k (0 : Int) ++ [0] = List.replicate (k + 1) 0 from List.replicate_succ'.symm] at ow9; have OW9 : Hid (Own wo.heap.size 5 u9 (.slice av9 (16 + xn + (k + 1)) cv9) (Q ++ List.replicate (k + 1) 0)) := ow9; clear ow9 g9))
                go_roundw
                case rel => exact ⟨k + 1, av9, cv9, by omega, rfl, OW9, BW9⟩
                case measure => simp [slen]; omega
              · have hk48 : k = 48 - xn := by omega
                have HPB : Hid (Q ++ List.replicate k 0 = partB gen round seq i m (chunk b i)) := by
                  show _ = _
                  have h9 := HXL.out.1
                  rw [HQ.out, hk48, h9]
                  exact partB_pad (chunk_len b i)
                have HOO : Hid (Own wo.heap.size 5 wr (.slice sa (16 + xn + k) sc) (partB gen round seq i m (chunk b i))) := by
                  rw [← HPB.out]
                  exact hO.out
                have HOR : Hid (OutR wo.heap.size wr (.slice sa (16 + xn + k) sc) (partB gen round seq i m (chunk b i))) := by
                  rw [HPB.out] at hO
                  exact ⟨hO.out.rd, fun k hk => (hO.out.2.lt k hk).1⟩
                have hFi : (frameL gen round seq b)[i]? = some (partB gen round seq i m (chunk b i)) := by
                  rw [HM.out]
                  exact frameL_at (by rw [← HM.out]; exact hlt)
                have HStep : Hid (∀ w3 v', w3.ownsRow 0 30 1 v' (rs ++ [(Value.slice sa (16 + xn + k) sc, partB gen round seq i m (chunk b i))]).length (flat lc (rs ++ [(Value.slice sa (16 + xn + k) sc, partB gen round seq i m (chunk b i))])) → (wr.alloc (.cells #[.slice sa (16 + xn + k) sc] 30)).grownBy w3 (Value.slice ra i rc).ownBlock → (∀ j, v'.ownBlock = some j → (Value.slice ra i rc).ownBlock = some j ∨ (wr.alloc (.cells #[.slice sa (16 + xn + k) sc] 30)).heap.size ≤ j) → RFr w (frameL gen round seq b) w3 v' (rs ++ [(Value.slice sa (16 + xn + k) sc, partB gen round seq i m (chunk b i))]) (i + 1)) := fun w3 v' k1 k2 k3 => hK.out.step hFi hBo.out HOR.out (HOO.out.lower hK.out.bel.size) (fun e => by cases e) k1 k2 k3
                have HRow : Hid ((wr.alloc (.cells #[.slice sa (16 + xn + k) sc] 30)).ownsRow 0 30 1 (.slice ra i rc) rs.length (flat lc rs)) := ((hK.out.rcs.below hBo.out).own).alloc _
                have HRL : Hid (rs.length = i) := hK.out.len
                generalize partB gen round seq i m (chunk b i) = PB at *
                clear hO HOR HOO hFi HPB hk48 hk
                go_wp2_with (at_builtin; go_must (refine wpList_append_rows ty25 lc_len (by omega) rfl (.tmp 70) (.tmp 72) rfl _ rs rfl HRow.out _ [(.slice sa (16 + xn + k) sc, PB)] rfl (rowF_one (f := lc) wr (.slice sa (16 + xn + k) sc, PB) 30) (flat_lc_one _ (fun q hq => by simp at hq; subst hq; rfl)) (by have := HRL.out; simp; omega) ?_; intro v3 w3 k1 k2 k3; have HF3 : Hid (RFr w (frameL gen round seq b) w3 v3 (rs ++ [(Value.slice sa (16 + xn + k) sc, PB)]) (i + 1)) := HStep.out w3 v3 k1 k2 k3; obtain ⟨a3, c3, hv3, hc31, hc32⟩ := slice_of_own k1; rw [lenR HRL.out] at hv3; subst hv3; clear k1 k2 k3))
                go_roundw
                case rel => exact ⟨i + 1, rs ++ [(.slice sa (16 + xn + k) sc, PB)], a3, c3, by omega, by go_num, rfl, HF3⟩
                case measure => simp [intOf]; omega
        · obtain rfl : i = m := by omega
          have HD : Hid (OutO w.heap.size wr (.slice ra i rc) (frameL gen round seq b)) := ⟨rs, hK.out.rcs.rl, by rw [hK.out.ll, List.take_of_length_le (by rw [frameL_len, HM.out]; exact Nat.le_refl _)], ⟨hK.out.rcs.new, hK.out.el⟩, hK.out.ow⟩
          go_wp2
          refine bodyPost_ret (results_tmp2 rfl _ _ _) rfl ⟨_, rfl, HD.out, hK.out.bel⟩
theorem rframe11 {w : World} {gen round seq : Int} {bv : Value} {b : List Int} (hg : U32 gen) (hr : U32 round) (hs : U32 seq) (hb : Rd w bv b) (hl : b.length ≤ 1000000) :
    Calls Tryd.prog 70 #[.int .u32 gen, .int .u32 round, .int .u32 seq, bv] w fun r w' => ∃ v, r = .returned (.tuple #[v, .int .i64 (frameK gen round b)]) ∧ OutL w.heap.size w' v (frameB gen round seq b) ∧ Below w.heap.size w w' :=
  (rframe11o hg hr hs hb hl).mono fun r w' ⟨v, h1, h2, h3⟩ => ⟨v, h1, h2.l, h3⟩
end Go.Proofs.YtkcighejmjgalaaDoor
