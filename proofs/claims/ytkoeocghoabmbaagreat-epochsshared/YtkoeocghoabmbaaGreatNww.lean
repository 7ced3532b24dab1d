/-
  The law's newWorld: both oracles, four people, their rings of both sides, the first state of the members of both sides.
-/
import Derived.Test.YtkoeocghoabmbaaGreatDoS
import Derived.Test.YtkoeocghoabmbaaGreatNwF
namespace Go.Proofs.YtkoeocghoabmbaaGreat
set_option linter.unusedVariables false
set_option linter.unusedSimpArgs false
set_option synthInstance.maxSize 20000
set_option maxHeartbeats 2000000
set_option maxRecDepth 20000
open Go.RowKit Go.Maps
def pairN : Nat → St → St
  | 0, S => S
  | k + 1, S => (pairN k S).pair
def ssN (S : St) (k : Nat) : Int := (pairN k S).fresh
def psN (S : St) (k : Nat) : Int := ((pairN k S).put .secret).fresh
theorem ora0 {ds : List Int} (h : ∀ d ∈ ds, U64 d) : Ora ⟨ds, []⟩ 0 := ⟨good0 h, ⟨fun _ _ _ e => (by cases e), fun _ _ _ _ e => (by cases e)⟩, fun _ _ _ _ e => (by cases e), Nat.le_refl _⟩
theorem pairN_ora {S : St} (h : Ora S 0) : ∀ k, k ≤ 100 → Ora (pairN k S) (2 * k)
  | 0, _ => h
  | k + 1, hk => ((pairN_ora h k (by omega)).pair (by omega)).le (by omega)
def ncs (ob rr : Nat) (pv rv mv : Nat → Value) (sl se tl te : Value) (sv : Nat → Value) : List Value := [ptr ob, ptr rr, pv 0, pv 1, pv 2, pv 3, rv 0, rv 1, rv 2, rv 3, mv 0, mv 1, mv 2, mv 3, sl, se, tl, te, sv 0, sv 1, sv 2, sv 3, .int .u64 0]
section
variable {ob rr n : Nat} {pv rv mv sv : Nat → Value} {sl se tl te : Value}
theorem ncs_p (h : n < 4) : (ncs ob rr pv rv mv sl se tl te sv)[2 + n]? = some (pv n) := by rcases four h with rfl | rfl | rfl | rfl <;> rfl
theorem ncs_r (h : n < 4) : (ncs ob rr pv rv mv sl se tl te sv)[6 + n]? = some (rv n) := by rcases four h with rfl | rfl | rfl | rfl <;> rfl
theorem ncs_m (h : n < 4) : (ncs ob rr pv rv mv sl se tl te sv)[10 + n]? = some (mv n) := by rcases four h with rfl | rfl | rfl | rfl <;> rfl
theorem ncs_s (h : n < 4) : (ncs ob rr pv rv mv sl se tl te sv)[18 + n]? = some (sv n) := by rcases four h with rfl | rfl | rfl | rfl <;> rfl
theorem ncs_sp (h : n < 4) (v : Value) : (ncs ob rr pv rv mv sl se tl te sv).set (2 + n) v = ncs ob rr (upd4 pv n v) rv mv sl se tl te sv := by rcases four h with rfl | rfl | rfl | rfl <;> rfl
theorem ncs_sr (h : n < 4) (v : Value) : (ncs ob rr pv rv mv sl se tl te sv).set (6 + n) v = ncs ob rr pv (upd4 rv n v) mv sl se tl te sv := by rcases four h with rfl | rfl | rfl | rfl <;> rfl
theorem ncs_sm (h : n < 4) (v : Value) : (ncs ob rr pv rv mv sl se tl te sv).set (10 + n) v = ncs ob rr pv rv (upd4 mv n v) sl se tl te sv := by rcases four h with rfl | rfl | rfl | rfl <;> rfl
theorem ncs_ss (h : n < 4) (v : Value) : (ncs ob rr pv rv mv sl se tl te sv).set (18 + n) v = ncs ob rr pv rv mv sl se tl te (upd4 sv n v) := by rcases four h with rfl | rfl | rfl | rfl <;> rfl
end
structure NwI (w0 w : World) (o : Nat → Nat) (wb ob rr : Nat) (S T : St) (ir im : Nat) (rb mb : Nat → Nat) (ss : Nat → Int) (cs : List Value) : Prop where
  blk : Blk w wb 50 cs
  own : o wb = 9
  orc : OrcAt w o ob S
  rorc : ROrc w0 w o rr T
  rings : ∀ n, n < ir → RIs w o (10 + n) (rb n) ob ⟨n, ss n, [], []⟩
  models : ∀ n, n < im → RRIs w o (20 + n) (mb n) ⟨n, ss n, [], []⟩
section
variable {w0 w w' : World} {o o' : Nat → Nat} {wb ob rr ir im : Nat} {S T : St} {rb mb : Nat → Nat} {ss : Nat → Int} {cs : List Value}
theorem NwI.orcS (h : NwI w0 w o wb ob rr S T ir im rb mb ss cs) (hi : ir ≤ 4) (hm : im ≤ 4) {S' : St} (m : Mv [1] w o w' o') (hO : OrcAt w' o' ob S') : NwI w0 w' o' wb ob rr S' T ir im rb mb ss cs :=
  ⟨h.blk.block (m.block wb h.blk.lt (by rw [h.own]; decide)), by rw [m.ext wb h.blk.lt]; exact h.own, hO, h.rorc.mv m (by decide) (by decide), fun n hn => (h.rings n hn).mv m (by decide) (by simp; omega), fun n hn => (h.models n hn).mv m (by decide) (by simp; omega)⟩
theorem NwI.rorcS (h : NwI w0 w o wb ob rr S T ir im rb mb ss cs) (hi : ir ≤ 4) (hm : im ≤ 4) {T' : St} (m : Mv [8] w o w' o') (hO : ROrc w0 w' o' rr T') : NwI w0 w' o' wb ob rr S T' ir im rb mb ss cs :=
  ⟨h.blk.block (m.block wb h.blk.lt (by rw [h.own]; decide)), by rw [m.ext wb h.blk.lt]; exact h.own, h.orc.mv m (by decide), hO, fun n hn => (h.rings n hn).mv m (by decide) (by simp; omega), fun n hn => (h.models n hn).mv m (by decide) (by simp; omega)⟩
theorem NwI.wrote (h : NwI w0 w o wb ob rr S T ir im rb mb ss cs) (hi : ir ≤ 4) (hm : im ≤ 4) {cs' : List Value} (hg : w.grownBy w' (some wb)) (hb : Blk w' wb 50 cs') : NwI w0 w' (newTo o w 9) wb ob rr S T ir im rb mb ss cs' ∧ Mv [9] w o w' (newTo o w 9) := by
  have m : Mv [9] w o w' (newTo o w 9) := Mv.of_turn 9 (turn_grown hg) (fun k hk _ => by
    simp at hk
    subst hk
    rw [h.own]; decide)
  exact ⟨⟨hb, by rw [m.ext wb h.blk.lt]; exact h.own, h.orc.mv m (by decide), h.rorc.mv m (by decide) (by decide), fun n hn => (h.rings n hn).mv m (by decide) (by simp; omega), fun n hn => (h.models n hn).mv m (by decide) (by simp; omega)⟩, m⟩
theorem NwI.set (h : NwI w0 w o wb ob rr S T ir im rb mb ss cs) (hi : ir ≤ 4) (hm : im ≤ 4) (i : Nat) (v : Value) : NwI w0 (w.setCell ⟨wb, i, none⟩ v) (newTo o w 9) wb ob rr S T ir im rb mb ss (cs.set i v) ∧ Mv [9] w o (w.setCell ⟨wb, i, none⟩ v) (newTo o w 9) :=
  h.wrote hi hm (grown_setCell w wb i v) (h.blk.set i v)
theorem NwI.below (h : NwI w0 w o wb ob rr S T ir im rb mb ss cs) (hb : Below w.heap.size w w') (j : Nat) : NwI w0 w' (newTo o w j) wb ob rr S T ir im rb mb ss cs := by
  have m : Mv [] w o w' (newTo o w j) := Mv.of_below j hb
  exact ⟨h.blk.below hb, by rw [m.ext wb h.blk.lt]; exact h.own, h.orc.mv m (by simp), h.rorc.mv m (by simp) (by simp), fun n hn => (h.rings n hn).mv m (by simp) (by simp), fun n hn => (h.models n hn).mv m (by simp) (by simp)⟩
theorem NwI.ring (h : NwI w0 w o wb ob rr S T ir im rb mb ss cs) {b : Nat} (hb : Below w.heap.size w w') (hr : RIs w' (newTo o w (10 + ir)) (10 + ir) b ob ⟨ir, ss ir, [], []⟩) : NwI w0 w' (newTo o w (10 + ir)) wb ob rr S T (ir + 1) im (upd4 rb ir b) mb ss cs := by
  have h2 := h.below hb (10 + ir)
  refine ⟨h2.blk, h2.own, h2.orc, h2.rorc, fun n hn => ?_, h2.models⟩
  by_cases e : n = ir
  · subst e
    rw [upd4_at]
    exact hr
  · rw [upd4_not _ _ e]
    exact h2.rings n (by omega)
theorem NwI.model (h : NwI w0 w o wb ob rr S T ir im rb mb ss cs) {b : Nat} (hb : Below w.heap.size w w') (hr : RRIs w' (newTo o w (20 + im)) (20 + im) b ⟨im, ss im, [], []⟩) : NwI w0 w' (newTo o w (20 + im)) wb ob rr S T ir (im + 1) rb (upd4 mb im b) ss cs := by
  have h2 := h.below hb (20 + im)
  refine ⟨h2.blk, h2.own, h2.orc, h2.rorc, h2.rings, fun n hn => ?_⟩
  by_cases e : n = im
  · subst e
    rw [upd4_at]
    exact hr
  · rw [upd4_not _ _ e]
    exact h2.models n (by omega)
end
def pF (S : St) (k : Nat) : Nat → Value := fun n => if n < k then .int .u64 (psN S n) else .int .u64 0
def sF (S : St) (k : Nat) : Nat → Value := fun n => if n < k then .int .u64 (ssN S n) else .int .u64 0
def rF (rb : Nat → Nat) (k : Nat) : Nat → Value := fun n => if n < k then ptr (rb n) else .pointer none
theorem pF_succ (S : St) (k : Nat) : upd4 (pF S k) k (.int .u64 (psN S k)) = pF S (k + 1) := step_fun (fun n => Value.int .u64 (psN S n)) (fun _ => .int .u64 0) k
theorem sF_succ (S : St) (k : Nat) : upd4 (sF S k) k (.int .u64 (ssN S k)) = sF S (k + 1) := step_fun (fun n => Value.int .u64 (ssN S n)) (fun _ => .int .u64 0) k
theorem rF_succ (rb : Nat → Nat) (k b : Nat) : upd4 (rF rb k) k (ptr b) = rF (upd4 rb k b) (k + 1) := by
  funext n
  unfold rF upd4
  by_cases h : n = k
  · subst h; simp
  · by_cases h2 : n < k
    · simp [h, h2, show n < k + 1 by omega]
    · simp [h, h2, show ¬ n < k + 1 by omega]
def nZ (ob rr : Nat) (S : St) (k : Nat) (rb mb : Nat → Nat) : List Value := ncs ob rr (pF S k) (rF rb k) (rF mb k) (.slice none 0 0) (.int .i64 0) (.slice none 0 0) (.int .i64 0) (sF S k)
theorem nwi0 {w0 w2 : World} {o2 : Nat → Nat} {ob1 rr1 : Nat} {S : St} (hO : OrcAt w2 o2 ob1 S) (hR : ROrc w0 w2 o2 rr1 S) : NwI w0 (w2.alloc (.cells #[ptr ob1, ptr rr1, .int .u64 0, .int .u64 0, .int .u64 0, .int .u64 0, .pointer none, .pointer none, .pointer none, .pointer none, .pointer none, .pointer none, .pointer none, .pointer none, .slice none 0 0, .int .i64 0, .slice none 0 0, .int .i64 0, .int .u64 0, .int .u64 0, .int .u64 0, .int .u64 0, .int .u64 0] 50)) (newTo o2 w2 9) w2.heap.size ob1 rr1 S S 0 0 (fun _ => 0) (fun _ => 0) (ssN S) (nZ ob1 rr1 S 0 (fun _ => 0) (fun _ => 0)) := by
  have m : Mv [] w2 o2 (w2.alloc (.cells #[ptr ob1, ptr rr1, .int .u64 0, .int .u64 0, .int .u64 0, .int .u64 0, .pointer none, .pointer none, .pointer none, .pointer none, .pointer none, .pointer none, .pointer none, .pointer none, .slice none 0 0, .int .i64 0, .slice none 0 0, .int .i64 0, .int .u64 0, .int .u64 0, .int .u64 0, .int .u64 0, .int .u64 0] 50)) (newTo o2 w2 9) := Mv.of_below 9 (balloc (Below.refl _ _) _)
  exact ⟨blk_new w2 _ 50, newTo_new (Nat.le_refl _), hO.mv m (by simp), hR.mv m (by simp) (by simp), fun n hn => (by omega), fun n hn => (by omega)⟩
def gd0 (S : St) (ob rr : Nat) (rb mb : Nat → Nat) : Gd := ⟨ob, rr, psN S, ssN S, rb, mb, pairN 4 S, pairN 4 S, ⟨[⟨0, psN S 0, 0, -1, 0⟩], -1⟩, ⟨[⟨0, psN S 0, 0, -1, 0⟩], -1⟩, fun n => ⟨n, ssN S n, [], []⟩, fun n => ⟨n, ssN S n, [], []⟩, 0⟩
def NwPost (w : World) (S : St) (r : Ending) (w' : World) : Prop := ∃ wb ob rr rb mb o sl tl, r = .returned (ptr wb) ∧ WG w w' o wb (gd0 S ob rr rb mb) sl tl
theorem nw_end {w0 w : World} {o : Nat → Nat} {wb ob rr : Nat} {S : St} {rb mb : Nat → Nat} {sl tl : Value} (h : NwI w0 w o wb ob rr (pairN 4 S) (pairN 4 S) 4 4 rb mb (ssN S) (ncs ob rr (pF S 4) (rF rb 4) (rF mb 4) sl (.int .i64 (-1)) tl (.int .i64 (-1)) (sF S 4))) (hs : KpF mc w o sl [⟨0, psN S 0, 0, -1, 0⟩]) (ht : KpF mc w o tl [⟨0, psN S 0, 0, -1, 0⟩]) : WG w0 w o wb (gd0 S ob rr rb mb) sl tl :=
  ⟨h.blk, h.own, h.orc, h.rorc, hs, ht, h.rings, h.models⟩
theorem newWorld9 {w : World} {dv : Value} {ds : List Int} (hd : RdU w dv ds) (hl : ds.length ≤ 1000) : Calls Tryz.prog 9 #[dv] w (NwPost w ⟨ds, []⟩) := by
  obtain ⟨S, hS⟩ : ∃ S : St, S = ⟨ds, []⟩ := ⟨_, rfl⟩
  have HOS : Hid (Ora S 0) := (show Ora _ _ by rw [hS]; exact ora0 hd.1)
  have HNw : Hid (∀ w' o', Below w.heap.size w w' → Calls Tryz.prog 24 #[dv] w' fun e w'' => ∃ b, e = .returned (ptr b) ∧ OrcAt w'' (newTo o' w' 1) b S ∧ Mv [] w' o' w'' (newTo o' w' 1)) := fun w' o' hb => by
    rw [hS]
    exact orc_new o' (hd.block (fun k _ hk => hb.block k hk)) (by omega)
  have HRN : Hid (∀ w' o', Below w.heap.size w w' → (∀ k, k < w.heap.size → o' k = 0) → ROrc w (w'.alloc (.cells #[dv, .slice none 0 0] 89)) (newTo o' w' 8) w'.heap.size S) := fun w' o' hb h3 => by
    rw [hS]
    exact rorc_new hb hd h3
  rw [← hS]
  obtain ⟨_, da, dc, rfl, _⟩ := hd
  obtain ⟨dn, hdn⟩ : ∃ dn, dn = ds.length := ⟨_, rfl⟩
  rw [← hdn] at HNw HRN ⊢
  have HL : Hid (∀ w1 ob1, Mv [] w (fun _ => 0) w1 (newTo (fun _ => 0) w 1) → OrcAt w1 (newTo (fun _ => 0) w 1) ob1 S → ∃ o2, OrcAt (w1.alloc (.cells #[.slice da dn dc, .slice none 0 0] 89)) o2 ob1 S ∧ ROrc w (w1.alloc (.cells #[.slice da dn dc, .slice none 0 0] 89)) o2 w1.heap.size S) := fun w1 ob1 hM1 hO1 => by
    have hb1 : Below w.heap.size w w1 := hM1.below (Nat.le_refl _) (by simp)
    refine ⟨newTo (newTo (fun _ => 0) w 1) w1 8, hO1.mv (Mv.of_below (I := []) 8 (balloc (Below.refl _ _) _)) (by simp), HRN.out w1 _ hb1 (fun k hk => ?_)⟩
    rw [newTo_old hk]
  clear hS hdn hl HRN
  go_enter Tryz.func9, Tryz.ntmps9
  go_upto_region 1 with fail
  go_cut [3] (fun bv wx => ∃ (wb ob rr : Nat) (o1 : Nat → Nat), bv = ptr wb ∧ Hid (NwI w wx o1 wb ob rr S S 0 0 (fun _ => 0) (fun _ => 0) (ssN S) (nZ ob rr S 0 (fun _ => 0) (fun _ => 0))))
  case first =>
    go_wp2_with (go_at_call 24; go_must (refine (HNw.out w (fun _ => 0) (Below.refl _ _)).mono ?_; rintro r w5 ⟨ob1, rfl, hO5, hM5⟩; obtain ⟨o7, hO7, hR7⟩ := HL.out w5 ob1 hM5 hO5))
    have HE := nwi0 (w0 := w) hO7 hR7
    rw [show (w5.alloc (.cells #[.slice da dn dc, .slice none 0 0] 89)).heap.size = w5.heap.size + 1 by simp] at HE
    go_meet
    exact ⟨_, _, _, _, rfl, HE⟩
  case rest =>
    obtain ⟨wb, ob, rr, o1, rfl, HN⟩ := hcut
    obtain ⟨W1, hW1⟩ : ∃ W1, W1 = wc := ⟨_, rfl⟩
    subst hW1
    clear HNw HL
    have HN0 : Hid (NwI w W1 o1 wb ob rr (pairN 0 S) (pairN 0 S) 0 0 (fun _ => 0) (fun _ => 0) (ssN S) (nZ ob rr S 0 (fun _ => 0) (fun _ => 0))) := HN.out
    clear HN
    go_wp2
    go_loopw [4] (fun i wr => ∃ (k : Nat), i = .int .i64 k ∧ k ≤ 4 ∧ ∃ (o2 : Nat → Nat) (rb mb : Nat → Nat), Hid (NwI w wr o2 wb ob rr (pairN k S) (pairN k S) k k rb mb (ssN S) (nZ ob rr S k rb mb))) (fun i _ => 4 - (intOf i).toNat)
    case atStart => exact ⟨0, rfl, by omega, o1, _, _, HN0.out⟩
    case round =>
      obtain ⟨k, rfl, hk, o2, rb, mb, HN⟩ := hrel
      by_cases hk4 : k < 4
      · have b0 := HN.out.blk.cell 0 _ rfl
        have HPa : Hid (Calls Tryz.prog 25 #[ptr ob] wr fun e w' => e = .returned (.tuple #[.int .u64 (ssN S k), .int .u64 (psN S k)]) ∧ ∃ o', OrcAt w' o' ob (pairN (k + 1) S) ∧ Mv [1] wr o2 w' o') := orc_pair HN.out.orc (pairN_ora HOS.out k (by omega)) (by omega)
        have HPb : Hid (∀ w' o', ROrc w w' o' rr (pairN k S) → Calls Tryz.prog 27 #[ptr rr] w' fun e w'' => e = .returned (.tuple #[.int .u64 (ssN S k), .int .u64 (psN S k)]) ∧ ∃ o'', ROrc w w'' o'' rr (pairN (k + 1) S) ∧ Mv [8] w' o' w'' o'') := fun w' o' h => rorc_pair h (pairN_ora HOS.out k (by omega)) (by omega)
        obtain ⟨sk, hsk⟩ : ∃ sk, sk = ssN S k := ⟨_, rfl⟩
        obtain ⟨pk, hpk⟩ : ∃ pk, pk = psN S k := ⟨_, rfl⟩
        rw [← hsk, ← hpk] at HPa HPb
        have HSK : Hid (sk = ssN S k ∧ pk = psN S k) := ⟨hsk, hpk⟩
        clear hsk hpk
        go_upto_region 6 with (go_at_call 25; go_must (refine HPa.out.mono ?_; rintro r w2 ⟨rfl, o3, hO2, hM2⟩))
        have HN2 : Hid (NwI w w2 o3 wb ob rr (pairN (k + 1) S) (pairN k S) k k rb mb (ssN S) (nZ ob rr S k rb mb)) := HN.out.orcS hk hk hM2 hO2
        have b1 := HN2.out.blk.cell 1 _ rfl
        clear hM2 hO2 b0 HN HPa
        go_upto_region 7 with (go_at_call 27; go_must (refine (HPb.out w2 o3 HN2.out.rorc).mono ?_; rintro r w3 ⟨rfl, o4, hO3, hM3⟩))
        have HN3 : Hid (NwI w w3 o4 wb ob rr (pairN (k + 1) S) (pairN (k + 1) S) k k rb mb (ssN S) (nZ ob rr S k rb mb)) := HN2.out.rorcS hk hk hM3 hO3
        have p0 := HN3.out.blk.cell (2 + k) _ (ncs_p hk4)
        have p1 := HN3.out.blk.frozen (2 + k)
        clear hM3 hO3 b1 HN2 HPb
        go_upto_region 8 with fail
        have hN4 := (HN3.out.set hk hk (2 + k) (.int .u64 pk)).1
        rw [show (nZ ob rr S k rb mb).set (2 + k) (.int .u64 pk) = ncs ob rr (pF S (k + 1)) (rF rb k) (rF mb k) (.slice none 0 0) (.int .i64 0) (.slice none 0 0) (.int .i64 0) (sF S k) by unfold nZ; rw [ncs_sp hk4, HSK.out.2, pF_succ]] at hN4
        generalize w3.setCell ⟨wb, 2 + k, none⟩ (.int .u64 pk) = w4 at *
        generalize newTo o4 w3 9 = o5 at *
        have q0 := hN4.blk.cell (18 + k) _ (ncs_s hk4)
        have q1 := hN4.blk.frozen (18 + k)
        have HN4 : Hid (NwI w w4 o5 wb ob rr (pairN (k + 1) S) (pairN (k + 1) S) k k rb mb (ssN S) (ncs ob rr (pF S (k + 1)) (rF rb k) (rF mb k) (.slice none 0 0) (.int .i64 0) (.slice none 0 0) (.int .i64 0) (sF S k))) := hN4
        clear p0 p1 HN3 hN4
        go_upto_region 9 with fail
        have hN5 := (HN4.out.set hk hk (18 + k) (.int .u64 sk)).1
        rw [ncs_ss hk4, HSK.out.1, sF_succ, ← HSK.out.1] at hN5
        generalize w4.setCell ⟨wb, 18 + k, none⟩ (.int .u64 sk) = w5 at *
        generalize newTo o5 w4 9 = o6 at *
        have b0 := hN5.blk.cell 0 _ rfl
        have HN5 : Hid (NwI w w5 o6 wb ob rr (pairN (k + 1) S) (pairN (k + 1) S) k k rb mb (ssN S) (ncs ob rr (pF S (k + 1)) (rF rb k) (rF mb k) (.slice none 0 0) (.int .i64 0) (.slice none 0 0) (.int .i64 0) (sF S (k + 1)))) := hN5
        have HR5 := new23 w5 o6 (10 + k) ob (k : Int) sk (by omega) (by omega)
        clear q0 q1 HN4 hN5
        go_upto_region 10 with (go_at_call 23; go_must (refine HR5.mono ?_; rintro r w6 ⟨rfl, hr6, hb6⟩))
        rw [HSK.out.1] at hr6
        have hN6 := HN5.out.ring hb6 hr6
        generalize newTo o6 w5 (10 + k) = o7 at *
        obtain ⟨nb, hnb⟩ : ∃ nb, nb = w5.heap.size := ⟨_, rfl⟩
        rw [← hnb] at hN6 ⊢
        have r0 := hN6.blk.cell (6 + k) _ (ncs_r hk4)
        have r1 := hN6.blk.frozen (6 + k)
        have HN6 : Hid (NwI w w6 o7 wb ob rr (pairN (k + 1) S) (pairN (k + 1) S) (k + 1) k (upd4 rb k nb) mb (ssN S) (ncs ob rr (pF S (k + 1)) (rF rb k) (rF mb k) (.slice none 0 0) (.int .i64 0) (.slice none 0 0) (.int .i64 0) (sF S (k + 1)))) := hN6
        clear HN5 HR5 b0 hr6 hb6 hN6 hnb
        go_upto_region 13 with fail
        have hN7 := (HN6.out.set hk4 hk (6 + k) (ptr nb)).1
        rw [ncs_sr hk4, rF_succ] at hN7
        generalize w6.setCell ⟨wb, 6 + k, none⟩ (ptr nb) = w7 at *
        generalize newTo o7 w6 9 = o8 at *
        have hN8 := hN7.model (balloc (Below.refl _ _) _) (rring_new (o := o8) (w := w7) (20 + k) (k : Int) (ssN S k))
        rw [← HSK.out.1] at hN8
        obtain ⟨w8, hw8⟩ : ∃ w8, w8 = w7.alloc (.cells #[.int .i64 (k : Int), .int .u64 sk, .slice none 0 0, .slice none 0 0] 55) := ⟨_, rfl⟩
        rw [← hw8] at hN8
        obtain ⟨xb, hxb⟩ : ∃ xb, xb = w7.heap.size := ⟨_, rfl⟩
        rw [← hxb] at hN8
        generalize newTo o8 w7 (20 + k) = o9 at *
        have s0 := hN8.blk.cell (10 + k) _ (ncs_m hk4)
        have s1 := hN8.blk.frozen (10 + k)
        have HX8 : Hid (w7.alloc (.cells #[.int .i64 (k : Int), .int .u64 sk, .slice none 0 0, .slice none 0 0] 55) = w8 ∧ w7.heap.size = xb) := ⟨hw8.symm, hxb.symm⟩
        have hN9 := (hN8.set hk4 hk4 (10 + k) (ptr xb)).1
        rw [ncs_sm hk4, rF_succ] at hN9
        have HN9 : Hid (NwI w (w8.setCell ⟨wb, 10 + k, none⟩ (ptr xb)) (newTo o9 w8 9) wb ob rr (pairN (k + 1) S) (pairN (k + 1) S) (k + 1) (k + 1) (upd4 rb k nb) (upd4 mb k xb) (ssN S) (nZ ob rr S (k + 1) (upd4 rb k nb) (upd4 mb k xb))) := hN9
        have s2 : (w7.alloc (.cells #[.int .i64 (k : Int), .int .u64 sk, .slice none 0 0, .slice none 0 0] 55)).cell? ⟨wb, 10 + k, none⟩ = some (rF mb k k) := by rw [← hw8]; exact s0
        have s3 : (w7.alloc (.cells #[.int .i64 (k : Int), .int .u64 sk, .slice none 0 0, .slice none 0 0] 55)).frozen? ⟨wb, 10 + k, none⟩ = false := by rw [← hw8]; exact s1
        clear hN7 hN8 hN9 HN6 r0 r1 s0 s1 hw8 hxb
        go_wp2
        rw [HX8.out.1, HX8.out.2]
        go_roundw
        case rel => exact ⟨k + 1, by go_num, by omega, _, _, _, HN9.out⟩
        case measure => simp [intOf]; omega
      · obtain rfl : k = 4 := by omega
        have HNs := new10f (psN S 0) wr
        have HNt : Hid (∀ w', Calls Tryz.prog 28 #[.int .u64 (psN S 0)] w' fun r w'' => ∃ v, r = .returned (stv v (-1)) ∧ RowF mc w'' v [⟨0, psN S 0, 0, -1, 0⟩] ∧ (∀ j, v.ownBlock = some j → w'.heap.size ≤ j) ∧ Below w'.heap.size w' w'') := fun w' => rnew11f (psN S 0) w'
        have b2 : wr.cell? ⟨wb, 2, none⟩ = some (.int .u64 (psN S 0)) := HN.out.blk.cell 2 _ rfl
        go_upto_region 14 with fail
        go_upto_region 15 with (go_at_call 26; go_must (refine HNs.mono ?_; rintro r w2 ⟨v2, rfl, hr2, hn2, hb2⟩; obtain ⟨x2, y2, hv2⟩ := hr2.len; subst hv2; have hN2 := HN.out.below hb2 0; have e0 := hN2.blk.cell 14 _ rfl; have e1 := hN2.blk.cell 15 _ rfl; have e2 := hN2.blk.frozen 14; have e3 := hN2.blk.frozen 15; unfold stv))
        have hK2 : KpF mc w2 (newTo o2 wr 0) (.slice x2 1 y2) [⟨0, psN S 0, 0, -1, 0⟩] := KpF.of_new mc_pos hr2 hn2
        obtain ⟨hN3, hM3⟩ := hN2.wrote (Nat.le_refl 4) (Nat.le_refl 4) (grown_trans (grown_setCell w2 wb 14 (.slice x2 1 y2)) (grown_setCell _ wb 15 (.int .i64 (-1))) (fun k hk => .inl hk)) ((hN2.blk.set 14 _).set 15 _)
        have hK3 := hK2.mv hM3 (by decide)
        generalize newTo o2 wr 0 = o3 at *
        generalize newTo o3 w2 9 = o4 at *
        generalize (w2.setCell ⟨wb, 14, none⟩ (.slice x2 1 y2)).setCell ⟨wb, 15, none⟩ (.int .i64 (-1)) = w3 at *
        have HN3 : Hid (NwI w w3 o4 wb ob rr (pairN 4 S) (pairN 4 S) 4 4 rb mb (ssN S) (ncs ob rr (pF S 4) (rF rb 4) (rF mb 4) (.slice x2 1 y2) (.int .i64 (-1)) (.slice none 0 0) (.int .i64 0) (sF S 4))) := hN3
        have HK3 : Hid (KpF mc w3 o4 (.slice x2 1 y2) [⟨0, psN S 0, 0, -1, 0⟩]) := hK3
        have b3 : w3.cell? ⟨wb, 2, none⟩ = some (.int .u64 (psN S 0)) := HN3.out.blk.cell 2 _ rfl
        clear HN HNs b2 hr2 hn2 hb2 hN2 e0 e1 e2 e3 hK2 hN3 hM3 hK3
        go_wp2_with (go_at_call 28; go_must (refine (HNt.out w3).mono ?_; rintro r w5 ⟨v5, rfl, hr5, hn5, hb5⟩; obtain ⟨x5, y5, hv5⟩ := hr5.len; subst hv5; have hN5 := HN3.out.below hb5 0; have e0 := hN5.blk.cell 16 _ rfl; have e1 := hN5.blk.cell 17 _ rfl; have e2 := hN5.blk.frozen 16; have e3 := hN5.blk.frozen 17; unfold stv))
        have hK5 : KpF mc w5 (newTo o4 w3 0) (.slice x5 1 y5) [⟨0, psN S 0, 0, -1, 0⟩] := KpF.of_new mc_pos hr5 hn5
        have hL5 := HK3.out.mv (Mv.of_below (I := []) 0 hb5) (by simp)
        obtain ⟨hN6, hM6⟩ := hN5.wrote (Nat.le_refl 4) (Nat.le_refl 4) (grown_trans (grown_setCell w5 wb 16 (.slice x5 1 y5)) (grown_setCell _ wb 17 (.int .i64 (-1))) (fun k hk => .inl hk)) ((hN5.blk.set 16 _).set 17 _)
        go_ret
        exact ⟨wb, ob, rr, rb, mb, _, _, _, rfl, nw_end hN6 (hL5.mv hM6 (by decide)) (hK5.mv hM6 (by decide))⟩
theorem at_pairN {S : St} (h : Ora S 0) : ∀ (k : Nat), k ≤ 100 → ∀ n, n < k → (pairN k S).at (ssN S n) = some .secret ∧ (pairN k S).at (psN S n) = some (.pub (ssN S n))
  | 0, _, n, hn => absurd hn (Nat.not_lt_zero n)
  | k + 1, hk, n, hn => by
    have h1 := pairN_ora h k (by omega)
    have hl := h1.len
    have h2 := h1.put (x := .secret) (by omega) trivial (fun _ _ e => by cases e) (fun _ _ _ e => by cases e) (fun _ _ _ e => by cases e)
    have hl2 := h2.len
    show ((pairN k S).pair).at _ = _ ∧ ((pairN k S).pair).at _ = _
    unfold St.pair
    by_cases e : n = k
    · subst e
      exact ⟨at_put_old h2.good (by omega) (at_put_new h1.good (by omega) _), at_put_new h2.good (by omega) _⟩
    · obtain ⟨h3, h4⟩ := at_pairN h k (by omega) n (by omega)
      exact ⟨at_put_old h2.good (by omega) (at_put_old h1.good (by omega) h3), at_put_old h2.good (by omega) (at_put_old h1.good (by omega) h4)⟩
theorem psN_u64 {S : St} (h : Ora S 0) {n : Nat} (hn : n < 4) : U64 (psN S n) := (at_ok (pairN_ora h 4 (by omega)).good (at_pairN h 4 (by omega) n hn).2).1
theorem gd0_inv {ds : List Int} (h : ∀ d ∈ ds, U64 d) (ob rr : Nat) (rb mb : Nat → Nat) : Inv (gd0 ⟨ds, []⟩ ob rr rb mb) 8 1 := by
  have hO := ora0 h
  have h0 : (0 : Int) ≤ 0 ∧ (0 : Int) < 18446744073709551616 := by omega
  exact ⟨⟨pairN_ora hO 4 (by omega), sok_new _, Nat.le_refl _, by simp [gd0], fun x hx => by
    simp [gd0] at hx
    subst hx
    exact ⟨psN_u64 hO (by omega), by unfold I64; dsimp only; omega⟩, fun n hn => psN_u64 hO hn, by unfold U64 gd0; dsimp only; omega⟩, rfl, rfl, fun k hk => ⟨rfl, rfl, rfl, rfl, rfl, 0, Nat.le_refl _, fun e he => rfl, fun h => absurd h (Nat.lt_irrefl 0)⟩, fun k hk => rfl⟩
end Go.Proofs.YtkoeocghoabmbaaGreat
