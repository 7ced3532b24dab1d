/-
  The oracle's Open and Unwrap.
  The oracle's Wrap.
  The oracles by owners: the program's (1) and the reference's (8); what each call turns.
-/
import Derived.Test.YtjbpfhnagiacmaaGreatRep
import Derived.Test.YtjbpfhnagiacmaaGreatEpM
import Derived.Test.YtjbpfhnagiacmaaGreatSeal
import Derived.Test.YtjbpfhnagiacmaaGreatTurn
import Derived.Test.YtjbpfhnagiacmaaGreatRowsF
namespace Go.Proofs.YtjbpfhnagiacmaaGreat
section
set_option linter.unusedVariables false
set_option synthInstance.maxSize 20000
open Classical
open Go.RowKit Go.Maps
set_option maxHeartbeats 2000000 in
set_option maxRecDepth 20000 in
theorem unwrap_any (w : World) (b : Nat) (ft : List Nat) (S : St) (h : Rep w b ft S) (s : Int) (v : Value) (l : List Int) (hv : Rd w v l) :
    Calls Tryz.prog 111 #[ptr b, .int .u64 s, v] w fun e w' => e = .returned (.tuple #[.int .u64 (S.unwrap s l).1, .int .i64 (S.unwrap s l).2]) ∧ Below w.heap.size w w' := by
  obtain ⟨T, dv, m1, m2, m3, hi, st⟩ := h
  obtain ⟨t, ok, hfind, hans⟩ := st.unwrap s l
  have hz : (T.at (headOf l)).zeros ≤ 2000 := by rw [st.at]; exact thing_zeros S _
  have HF : Hid (∀ w', Below w.heap.size w w' → Calls Tryz.prog 84 #[ptr b, .int .i64 5, v] w' fun e w'' => e = .returned (.tuple #[thingVal t, .bool ok]) ∧ Below w'.heap.size w' w'') := fun w' hb => by
    have := find_any w' b ft T dv m1 m2 m3 (hi.below hb) 5 v l (hv.below hb) hz
    rw [hfind] at this
    exact this
  rw [hans]
  clear hi st hv hfind hans hz
  unfold thingVal at HF
  cases ok with
  | false =>
    go_enter Tryz.func111, Tryz.ntmps111
    go_wp2_with (go_at_call 84; go_must (refine (HF.out _ (Below.refl _ _)).mono ?_; rintro e w1 ⟨rfl, hb1⟩))
    go_ret2
    exact ⟨rfl, balloc hb1 _⟩
  | true =>
    by_cases hs : t.secret = s
    · have hs' : (t.secret != s) = false := by simpa using hs
      simp only [if_pos hs, if_true]
      clear hs
      go_enter Tryz.func111, Tryz.ntmps111
      go_wp2_with (go_at_call 84; go_must (refine (HF.out _ (Below.refl _ _)).mono ?_; rintro e w1 ⟨rfl, hb1⟩))
      go_ret2
      exact ⟨rfl, balloc hb1 _⟩
    · have hs' : (t.secret != s) = true := by simpa using hs
      simp only [if_neg hs, if_true]
      clear hs
      go_enter Tryz.func111, Tryz.ntmps111
      go_wp2_with (go_at_call 84; go_must (refine (HF.out _ (Below.refl _ _)).mono ?_; rintro e w1 ⟨rfl, hb1⟩))
      go_ret2
      exact ⟨rfl, balloc hb1 _⟩
set_option maxHeartbeats 2000000 in
set_option maxRecDepth 20000 in
theorem open_any (w : World) (b : Nat) (ft : List Nat) (S : St) (h : Rep w b ft S) (k : Int) (u : Value) (bd : List Int) (hu : Rd w u bd) (v : Value) (l : List Int) (hv : Rd w v l) (hlen : ∀ k b p, S.find l = some (.seal k b p) → p.length ≤ 1000000) :
    Calls Tryz.prog 40 #[ptr b, .int .u64 k, u, v] w fun e w' => ∃ v', e = .returned (.tuple #[v', .int .i64 (S.open k bd l).2]) ∧ Rd w' v' (S.open k bd l).1 ∧ Below w.heap.size w w' ∧ ∀ j, v'.ownBlock = some j → w.heap.size ≤ j ∧ j < w'.heap.size := by
  obtain ⟨T, dv, m1, m2, m3, hi, st⟩ := h
  obtain ⟨t, ok, hfind, hob, hop, hans⟩ := st.open k bd l
  have hz : (T.at (headOf l)).zeros ≤ 2000 := by rw [st.at]; exact thing_zeros S _
  have hpl : t.plain.length ≤ 1000000 := by
    have hf := st.find l
    have e1 : t = (T.find 4 l).1 := by rw [hfind]
    rw [e1]
    unfold Tab.find
    rw [hf]
    split
    · cases e : S.find l with
      | none => simp [noThing]
      | some x => cases x using What.each <;> simp [thingOf]; exact hlen _ _ _ e
    · simp [noThing]
  have HF : Hid (∀ w', Below w.heap.size w w' → Calls Tryz.prog 84 #[ptr b, .int .i64 4, v] w' fun e w'' => e = .returned (.tuple #[thingVal t, .bool ok]) ∧ Below w'.heap.size w' w'') := fun w' hb => by
    have := find_any w' b ft T dv m1 m2 m3 (hi.below hb) 4 v l (hv.below hb) hz
    rw [hfind] at this
    exact this
  rw [hans]
  have HU : Hid (Rd w u bd) := hu
  have HNE : Hid (((strOfNums t.bound).toList == (strOfNums bd).toList) = decide (t.bound = bd)) := strEq hob hu.oct
  clear hi st hv hfind hans hz hu
  unfold thingVal at HF
  cases ok with
  | false =>
    go_enter Tryz.func40, Tryz.ntmps40
    go_wp2_with (go_at_call 84; go_must (refine (HF.out _ (Below.refl _ _)).mono ?_; rintro e w1 ⟨rfl, hb1⟩))
    go_ret2
    exact ⟨_, rfl, rd_nil _, balloc hb1 _, fun j hj => by cases hj⟩
  | true =>
    by_cases hs : t.key = k
    · have hs' : (t.key != k) = false := by simpa using hs
      simp only [if_pos hs, if_true]
      clear hs
      by_cases hbd : t.bound = bd
      · simp only [if_pos hbd]
        have hne : ((strOfNums t.bound).toList == (strOfNums bd).toList) = true := by rw [HNE.out]; simp [hbd]
        clear hbd HNE
        go_enter Tryz.func40, Tryz.ntmps40
        go_wp2_with (first
          | (go_at_call 84; go_must (refine (HF.out _ (Below.refl _ _)).mono ?_; rintro e w1 ⟨rfl, hb1⟩; have q1 := toStr (w1.alloc (.cells #[.int .i64 t.use, .int .u64 t.secret, .int .u64 t.key, .int .i64 t.zeros, .string (strOfNums t.bound), .string (strOfNums t.plain)] 109)) u bd (HU.out.below (balloc hb1 _))))
          | (refine wpList_toBytes rfl _ rfl t.plain hop (by unfold maxLen; omega) rfl ?_; intro v2 w2 hr2 hb2 ho2))
        go_ret2
        exact ⟨_, rfl, hr2, bnext (balloc hb1 _) hb2, fun j hj => by have := ho2 j hj; have := hb1.size; simp at *; omega⟩
      · simp only [if_neg hbd]
        have hne : ((strOfNums t.bound).toList == (strOfNums bd).toList) = false := by rw [HNE.out]; simp [hbd]
        clear hbd HNE
        go_enter Tryz.func40, Tryz.ntmps40
        go_wp2_with (go_at_call 84; go_must (refine (HF.out _ (Below.refl _ _)).mono ?_; rintro e w1 ⟨rfl, hb1⟩; have q1 := toStr (w1.alloc (.cells #[.int .i64 t.use, .int .u64 t.secret, .int .u64 t.key, .int .i64 t.zeros, .string (strOfNums t.bound), .string (strOfNums t.plain)] 109)) u bd (HU.out.below (balloc hb1 _))))
        go_ret2
        exact ⟨_, rfl, rd_nil _, balloc hb1 _, fun j hj => by cases hj⟩
    · have hs' : (t.key != k) = true := by simpa using hs
      simp only [if_neg hs, if_true]
      clear hs
      go_enter Tryz.func40, Tryz.ntmps40
      go_wp2_with (go_at_call 84; go_must (refine (HF.out _ (Below.refl _ _)).mono ?_; rintro e w1 ⟨rfl, hb1⟩))
      go_ret2
      exact ⟨_, rfl, rd_nil _, balloc hb1 _, fun j hj => by cases hj⟩
end
section
set_option linter.unusedVariables false
set_option synthInstance.maxSize 20000
open Classical
open Go.RowKit Go.Maps
theorem at_useP (S : St) (g : Int) : (((S.at g).map thingOf).getD noThing).use = 3 ↔ ∃ s, S.at g = some (.pub s) := by
  cases S.at g with
  | none => simp [noThing]
  | some x => cases x using What.each <;> simp [thingOf]
theorem wrap_no {S : St} {p : Int} (h : ¬ ∃ s, S.at p = some (.pub s)) (k : Int) : S.wrap p k = (([], 20), S) := by
  unfold St.wrap
  split
  · rename_i s e; exact absurd ⟨s, e⟩ h
  · rfl
theorem wrap_pub {S : St} {p s : Int} (h : S.at p = some (.pub s)) (k : Int) : S.wrap p k = if S.at k = some .key then ((boxOf S.fresh 8, 0), S.put (.wrap s k p)) else (([], 11), S) := by
  unfold St.wrap
  rw [h]
set_option maxHeartbeats 2000000 in
set_option maxRecDepth 20000 in
theorem wrap_any (w : World) (b : Nat) (ft : List Nat) (S : St) (h : Rep w b ft S) (hN : S.rows.length + 1 < 1000000000) (p : Int) (hp : U64 p) (k : Int) (hk : U64 k) :
    Calls Tryz.prog 94 #[ptr b, .int .u64 p, .int .u64 k] w fun e w' => ∃ v', e = .returned (.tuple #[v', .int .i64 (S.wrap p k).1.2]) ∧ LeftB w b ft (S.wrap p k).2 w' v' (S.wrap p k).1.1 := by
  have HR : Hid (Rep w b ft S) := h
  obtain ⟨T, dv, m1, m2, m3, hi, st⟩ := h
  have c2 := hi.blk.cell 2 _ rfl
  have hlk := hi.look hp
  have HA : Hid ((T.at p).use = 3 ↔ ∃ s, S.at p = some (.pub s)) := by rw [st.at]; exact at_useP S p
  have HB : Hid (∀ s, S.at p = some (.pub s) → (T.at p).secret = s ∧ U64 s) := fun s e => by rw [st.at, e]; exact ⟨rfl, (at_ok st.good e).2.2⟩
  have hO := thing_oct st.good k
  rw [← st.at] at hO
  have HK : Hid (∀ w', Below w.heap.size w w' → Calls Tryz.prog 76 #[ptr b, .int .u64 k] w' fun e w'' => e = .returned (.bool (decide (S.at k = some .key))) ∧ w'' = w') := fun w' hb => by
    have := isKey_any w' b ft T dv m1 m2 m3 (hi.below hb) k hk hO
    have e : decide (T.at k = ⟨1, 0, 0, 0, [], []⟩) = decide (S.at k = some .key) := decide_eq_decide.2 (by rw [st.at]; exact at_key S k)
    rw [e] at this
    exact this
  have hlt : b < w.heap.size := hi.blk.lt
  have hroom := hi.room
  have hfU : U64 S.fresh := (fresh_ok st.good (by omega)).2.2.1
  clear hi st hO
  unfold thingVal at hlk
  generalize T.at p = t at hlk HA HB
  by_cases hpub : t.use = 3
  · obtain ⟨s, hs⟩ := HA.out.1 hpub
    obtain ⟨hsec, hU⟩ := HB.out s hs
    have hu : (t.use != 3) = false := by simpa using hpub
    rw [wrap_pub hs]
    subst hsec
    clear hpub HA HB hs
    by_cases hkey : S.at k = some .key
    · rw [if_pos hkey]
      have hok : decide (S.at k = some .key) = true := decide_eq_true hkey
      rw [hok] at HK
      clear hkey hok
      go_enter Tryz.func94, Tryz.ntmps94
      go_wp2_with (go_at_call 76; go_must (refine (HK.out _ (balloc (Below.refl _ w) _)).mono ?_; rintro e w1 ⟨rfl, rfl⟩))
      go_region_with (first
        | (go_at_call 51; go_must (refine (put_row _ b ft S (HR.out.below (balloc (balloc (Below.refl _ w) _) _).drew) hN (.wrap t.secret k p) ⟨hU, hk, hp⟩ (by simp) (by simp) _ rfl).mono ?_; rintro e w2 ⟨rfl, hl2⟩; have HL2 : Hid (Left w b ft (S.put (.wrap t.secret k p)) w2) := hl2.after (balloc (balloc (Below.refl _ w) _) _).drew; have X := (blk2_1 w [.int .i64 t.use, .int .u64 t.secret, .int .u64 t.key, .int .i64 t.zeros, .string (strOfNums t.bound), .string (strOfNums t.plain)] [.int .i64 5, .int .u64 t.secret, .int .u64 k, .int .i64 8, .string ⟨#[]⟩, .string ⟨#[]⟩] 109 109).block (hl2.2.block (w.heap.size + 1) (by simp) (fun e => by have := hroom _ e; omega)); have j3 := X.cell 3 _ rfl; clear X hl2))
        | (go_at_call 77; go_must (refine (form_any S.fresh 8 _ hfU (by omega)).mono ?_; rintro e w3 ⟨v3, rfl, hown, hb3⟩)))
      all_goals go_wp2
      all_goals go_ret2
      all_goals exact ⟨_, rfl, LeftB.mk' HL2.out hown hb3⟩
    · rw [if_neg hkey]
      have hok : decide (S.at k = some .key) = false := decide_eq_false hkey
      rw [hok] at HK
      clear hkey hok
      go_enter Tryz.func94, Tryz.ntmps94
      go_wp2_with (go_at_call 76; go_must (refine (HK.out _ (balloc (Below.refl _ w) _)).mono ?_; rintro e w1 ⟨rfl, rfl⟩))
      go_ret2
      exact ⟨_, rfl, LeftB.nil HR.out (balloc (Below.refl _ w) _)⟩
  · rw [wrap_no (fun e => hpub (HA.out.2 e))]
    have hu : (t.use != 3) = true := by simpa using hpub
    go_enter Tryz.func94, Tryz.ntmps94
    go_wp2
    go_ret2
    exact ⟨_, rfl, LeftB.nil HR.out (balloc (Below.refl _ w) _)⟩
end
section
set_option linter.unusedVariables false
set_option linter.unusedSimpArgs false
set_option synthInstance.maxSize 20000
set_option maxHeartbeats 2000000
set_option maxRecDepth 20000
open Go.RowKit Go.Maps
def OrcAt (w : World) (o : Nat → Nat) (b : Nat) (S : St) : Prop := ∃ ft, Rep w b ft S ∧ ∀ k ∈ ft, o k = 1
theorem OrcAt.good {w : World} {o : Nat → Nat} {b : Nat} {S : St} (h : OrcAt w o b S) : Good S := h.choose_spec.1.good
theorem OrcAt.mv {I : List Nat} {w w' : World} {o o' : Nat → Nat} {b : Nat} {S : St} (h : OrcAt w o b S) (m : Mv I w o w' o') (h1 : 1 ∉ I) : OrcAt w' o' b S := by
  obtain ⟨ft, hr, ho⟩ := h
  refine ⟨ft, hr.turn m.turn (fun k hk e => h1 (by rw [← ho k hk]; exact (mem_wr e).2)), fun k hk => ?_⟩
  rw [m.ext k (hr.room k hk)]
  exact ho k hk
theorem OrcAt.left {w w' : World} {o : Nat → Nat} {b : Nat} {S' : St} {ft : List Nat} (ho : ∀ k ∈ ft, o k = 1) (hl : Left w b ft S' w') (hroom : ∀ k ∈ ft, k < w.heap.size) : OrcAt w' (newTo o w 1) b S' ∧ Mv [1] w o w' (newTo o w 1) := by
  obtain ⟨⟨ft', hr, of'⟩, t⟩ := hl
  refine ⟨⟨ft', hr, fun k hk => ?_⟩, Mv.of_turn 1 t (fun k hk _ => by rw [ho k hk]; simp)⟩
  rcases of' k hk with e | e
  · rw [newTo_old (hroom k e)]; exact ho k e
  · exact newTo_new e
theorem OrcAt.leftB {w w' : World} {o : Nat → Nat} {b : Nat} {S' : St} {ft : List Nat} {y : Value} {l : List Int} (ho : ∀ k ∈ ft, o k = 1) (hl : LeftB w b ft S' w' y l) (hroom : ∀ k ∈ ft, k < w.heap.size) :
    ∃ o', OrcAt w' o' b S' ∧ Kp0 w' o' y l ∧ Mv [1] w o w' o' := by
  obtain ⟨rd, ⟨ft', hr, of', out'⟩, t, own'⟩ := hl
  refine ⟨newBy o w (fun k => if y.ownBlock = some k then 0 else 1), ⟨ft', hr, fun k hk => ?_⟩, ⟨rd, fun _ k hk => ?_⟩, Mv.of_turn' _ t (fun k hk _ => by rw [ho k hk]; simp)⟩
  · rcases of' k hk with e | e
    · rw [newBy_old (hroom k e)]; exact ho k e
    · rw [newBy_new e]
      exact if_neg (fun e' => out' k e' hk)
  · rw [newBy_new (own' k hk).1]
    exact if_pos hk
theorem OrcAt.fresh {w w' : World} {o : Nat → Nat} {b : Nat} {S : St} (h : ∃ ft, Rep w' b ft S ∧ ∀ k ∈ ft, w.heap.size ≤ k) : OrcAt w' (newTo o w 1) b S := by
  obtain ⟨ft, hr, hn⟩ := h
  exact ⟨ft, hr, fun k hk => newTo_new (hn k hk)⟩
theorem RefAt.sbl {W : WS} {w : World} {r : Nat} {fr : List Nat} {S : St} (h : RefAt W w r fr S) : ∀ k ∈ W.sb, k < w.heap.size := by
  obtain ⟨R, dv, lv, h⟩ := h
  exact fun k hk => (h.sep k hk).2
def ksOf (x : Value) : List Nat := x.ownBlock.toList
theorem ref0 (W w : World) (hb : Below W.heap.size W w) (dv : Value) (ds : List Int) (hd : RdU W dv ds) : RefAt ⟨W, []⟩ (w.alloc (.cells #[dv, .slice none 0 0] 57)) w.heap.size [w.heap.size] ⟨ds, []⟩ :=
  ⟨[], dv, .slice none 0 0, rfl, blk_new w [dv, .slice none 0 0] 57, by simp, fun k hk => by simp at hk; subst hk; exact hb.size, fun k hk => by simp at hk; subst hk; simp, balloc hb _, hd, World.ownsRow_nil _ _ _ _, (fun k hk => by cases hk), (fun q hq => by cases hq), (fun k hk => by cases hk), good0 hd.1, by simp⟩
def ROrc (w0 w : World) (o : Nat → Nat) (r : Nat) (T : St) : Prop := ∃ fr sb, RefAt ⟨w0, sb⟩ w r fr T ∧ (∀ k ∈ fr, o k = 8) ∧ (∀ k ∈ sb, o k = 0) ∧ (∀ k, k < w0.heap.size → o k = 0)
theorem ROrc.good {w0 w : World} {o : Nat → Nat} {r : Nat} {T : St} (h : ROrc w0 w o r T) : Good T := by
  obtain ⟨fr, sb, h, _⟩ := h
  exact h.good
theorem ROrc.mv {I : List Nat} {w0 w w' : World} {o o' : Nat → Nat} {r : Nat} {T : St} (h : ROrc w0 w o r T) (m : Mv I w o w' o') (h0 : 0 ∉ I) (h8 : 8 ∉ I) : ROrc w0 w' o' r T := by
  obtain ⟨fr, sb, h, h1, h2, h3⟩ := h
  refine ⟨fr, sb, h.turn m.turn (fun k hk e => h8 (by rw [← h1 k hk]; exact (mem_wr e).2)) (fun k hk => ⟨?_, fun e => h0 (by rw [← h2 k e]; exact (mem_wr hk).2)⟩), fun k hk => ?_, fun k hk => ?_, fun k hk => ?_⟩
  · apply Nat.le_of_not_lt
    intro e
    exact h0 (by rw [← h3 k e]; exact (mem_wr hk).2)
  · rw [m.ext k (h.room k hk)]; exact h1 k hk
  · rw [m.ext k (h.sbl k hk)]; exact h2 k hk
  · rw [m.ext k (Nat.lt_of_lt_of_le hk h.bel.size)]; exact h3 k hk
theorem ROrc.below {w0 w w' : World} {o : Nat → Nat} {r : Nat} {T : St} (h : ROrc w0 w o r T) (hb : Below w.heap.size w w') : ROrc w0 w' (newTo o w 0) r T := h.mv (Mv.of_below (I := []) 0 hb) (by simp) (by simp)
theorem rorc_new {w0 w : World} {o : Nat → Nat} (hb : Below w0.heap.size w0 w) {dv : Value} {ds : List Int} (hd : RdU w0 dv ds) (h3 : ∀ k, k < w0.heap.size → o k = 0) : ROrc w0 (w.alloc (.cells #[dv, .slice none 0 0] 57)) (newTo o w 8) w.heap.size ⟨ds, []⟩ := by
  refine ⟨[w.heap.size], [], ref0 w0 w hb dv ds hd, fun k hk => ?_, (fun k hk => by cases hk), fun k hk => ?_⟩
  · simp at hk
    subst hk
    exact newTo_new (Nat.le_refl _)
  · rw [newTo_old (Nat.lt_of_lt_of_le hk hb.size)]; exact h3 k hk
theorem OrcAt.below {w w' : World} {o : Nat → Nat} {b : Nat} {S : St} (h : OrcAt w o b S) (hb : Below w.heap.size w w') : OrcAt w' (newTo o w 0) b S := h.mv (Mv.of_below (I := []) 0 hb) (by simp)
theorem orc_new {w : World} {v : Value} {l : List Int} (o : Nat → Nat) (hv : RdU w v l) (hl : l.length ≤ 1000000) : Calls Tryz.prog 20 #[v] w fun e w' => ∃ b, e = .returned (ptr b) ∧ OrcAt w' (newTo o w 1) b ⟨l, []⟩ ∧ Mv [] w o w' (newTo o w 1) := by
  refine (new_any v l w hv hl).mono ?_
  rintro e w' ⟨b, rfl, hr, hb⟩
  exact ⟨b, rfl, OrcAt.fresh hr, Mv.of_below 1 hb⟩
theorem orc_key {w : World} {o : Nat → Nat} {b : Nat} {S : St} {n : Nat} (h : OrcAt w o b S) (hS : Ora S n) (hn : n ≤ 80000) : Calls Tryz.prog 53 #[ptr b] w fun e w' => e = .returned (.int .u64 S.fresh) ∧ ∃ o', OrcAt w' o' b (S.put .key) ∧ Mv [1] w o w' o' := by
  obtain ⟨ft, hr, ho⟩ := h
  refine (key_any w b ft S hr (by have := hS.len; omega)).mono ?_
  rintro e w' ⟨rfl, hl⟩
  obtain ⟨h1, h2⟩ := OrcAt.left ho hl hr.room
  exact ⟨rfl, _, h1, h2⟩
theorem orc_pair {w : World} {o : Nat → Nat} {b : Nat} {S : St} {n : Nat} (h : OrcAt w o b S) (hS : Ora S n) (hn : n ≤ 80000) : Calls Tryz.prog 21 #[ptr b] w fun e w' => e = .returned (.tuple #[.int .u64 S.fresh, .int .u64 (S.put .secret).fresh]) ∧ ∃ o', OrcAt w' o' b S.pair ∧ Mv [1] w o w' o' := by
  obtain ⟨ft, hr, ho⟩ := h
  refine (pair_any w b ft S hr (by have := hS.len; omega)).mono ?_
  rintro e w' ⟨rfl, hl⟩
  obtain ⟨h1, h2⟩ := OrcAt.left ho hl hr.room
  exact ⟨rfl, _, h1, h2⟩
theorem orc_wrap {w : World} {o : Nat → Nat} {b : Nat} {S : St} {n : Nat} (h : OrcAt w o b S) (hS : Ora S n) (hn : n ≤ 80000) {p k : Int} (hp : U64 p) (hk : U64 k) : Calls Tryz.prog 94 #[ptr b, .int .u64 p, .int .u64 k] w fun e w' => ∃ v', e = .returned (.tuple #[v', .int .i64 (S.wrap p k).1.2]) ∧ ∃ o', OrcAt w' o' b (S.wrap p k).2 ∧ Kp0 w' o' v' (S.wrap p k).1.1 ∧ Mv [1] w o w' o' := by
  obtain ⟨ft, hr, ho⟩ := h
  refine (wrap_any w b ft S hr (by have := hS.len; omega) p hp k hk).mono ?_
  rintro e w' ⟨v', rfl, hl⟩
  exact ⟨v', rfl, OrcAt.leftB ho hl hr.room⟩
theorem orc_seal {w : World} {o : Nat → Nat} {b : Nat} {S : St} {n : Nat} (h : OrcAt w o b S) (hS : Ora S n) (hn : n ≤ 80000) {k : Int} (hk : U64 k) {u v : Value} {bd pl : List Int} (hu : Rd w u bd) (hv : Rd w v pl) (hlen : pl.length ≤ 1000000) : Calls Tryz.prog 35 #[ptr b, .int .u64 k, u, v] w fun e w' => ∃ v', e = .returned (.tuple #[v', .int .i64 (S.seal k bd pl).1.2]) ∧ ∃ o', OrcAt w' o' b (S.seal k bd pl).2 ∧ Kp0 w' o' v' (S.seal k bd pl).1.1 ∧ Mv [1] w o w' o' := by
  obtain ⟨ft, hr, ho⟩ := h
  refine (seal_any w b ft S hr (by have := hS.len; omega) k hk u bd hu v pl hv hlen).mono ?_
  rintro e w' ⟨v', rfl, hl⟩
  exact ⟨v', rfl, OrcAt.leftB ho hl hr.room⟩
theorem orc_unwrap {w : World} {o : Nat → Nat} {b : Nat} {S : St} (h : OrcAt w o b S) (s : Int) {v : Value} {l : List Int} (hv : Rd w v l) : Calls Tryz.prog 111 #[ptr b, .int .u64 s, v] w fun e w' => e = .returned (.tuple #[.int .u64 (S.unwrap s l).1, .int .i64 (S.unwrap s l).2]) ∧ Below w.heap.size w w' := by
  obtain ⟨ft, hr, ho⟩ := h
  exact unwrap_any w b ft S hr s v l hv
theorem orc_open {w : World} {o : Nat → Nat} {b : Nat} {S : St} {n : Nat} (h : OrcAt w o b S) (hS : Ora S n) (k : Int) {u v : Value} {bd l : List Int} (hu : Rd w u bd) (hv : Rd w v l) : Calls Tryz.prog 40 #[ptr b, .int .u64 k, u, v] w fun e w' => ∃ v', e = .returned (.tuple #[v', .int .i64 (S.open k bd l).2]) ∧ Rd w' v' (S.open k bd l).1 ∧ Below w.heap.size w w' := by
  obtain ⟨ft, hr, ho⟩ := h
  refine (open_any w b ft S hr k u bd hu v l hv (hS.find l)).mono ?_
  rintro e w' ⟨v', rfl, h1, h2, _⟩
  exact ⟨v', rfl, h1, h2⟩
theorem rorc_left {w0 w w' : World} {o : Nat → Nat} {r : Nat} {T T' : St} {fr sb ks : List Nat} (h : RefAt ⟨w0, sb⟩ w r fr T) (h1 : ∀ k ∈ fr, o k = 8) (h2 : ∀ k ∈ ks ++ sb, o k = 0) (h3 : ∀ k, k < w0.heap.size → o k = 0) (hks : ∀ k ∈ ks, k < w.heap.size) {fr' : List Nat} (ra : RefAt ⟨w0, ks ++ sb⟩ w' r fr' T') (of' : Of fr w fr') (t : Turn fr w w') : ROrc w0 w' (newBy o w (fun k => if k ∈ fr' then 8 else 0)) r T' ∧ Mv [8] w o w' (newBy o w (fun k => if k ∈ fr' then 8 else 0)) := by
  refine ⟨⟨fr', ks ++ sb, ra, fun k hk => ?_, fun k hk => ?_, fun k hk => ?_⟩, Mv.of_turn' _ t (fun k hk _ => by rw [h1 k hk]; simp)⟩
  · rcases of' k hk with e | e
    · rw [newBy_old (h.room k e)]; exact h1 k e
    · rw [newBy_new e]; exact if_pos hk
  · rw [newBy_old ?_]
    · exact h2 k hk
    · rcases List.mem_append.1 hk with e | e
      · exact hks k e
      · exact h.sbl k e
  · rw [newBy_old (Nat.lt_of_lt_of_le hk h.bel.size)]; exact h3 k hk
theorem rorc_key {w0 w : World} {o : Nat → Nat} {r : Nat} {S : St} {n : Nat} (h : ROrc w0 w o r S) (hS : Ora S n) (hn : n ≤ 80000) : Calls Tryz.prog 57 #[ptr r] w fun e w' => e = .returned (.int .u64 S.fresh) ∧ ∃ o', ROrc w0 w' o' r (S.put .key) ∧ Mv [8] w o w' o' := by
  obtain ⟨fr, sb, ha, h1, h2, h3⟩ := h
  refine (rkey_any _ w r fr S ha (by have := hS.len; omega)).mono ?_
  rintro e w' ⟨rfl, ⟨fr', ra, of'⟩, t⟩
  obtain ⟨q1, q2⟩ := rorc_left (ks := []) ha h1 h2 h3 (fun k hk => by cases hk) ra of' t
  exact ⟨rfl, _, q1, q2⟩
theorem rorc_pair {w0 w : World} {o : Nat → Nat} {r : Nat} {S : St} {n : Nat} (h : ROrc w0 w o r S) (hS : Ora S n) (hn : n ≤ 80000) : Calls Tryz.prog 22 #[ptr r] w fun e w' => e = .returned (.tuple #[.int .u64 S.fresh, .int .u64 (S.put .secret).fresh]) ∧ ∃ o', ROrc w0 w' o' r S.pair ∧ Mv [8] w o w' o' := by
  obtain ⟨fr, sb, ha, h1, h2, h3⟩ := h
  refine (rpair_any _ w r fr S ha (by have := hS.len; omega)).mono ?_
  rintro e w' ⟨rfl, ⟨fr', ra, of'⟩, t⟩
  obtain ⟨q1, q2⟩ := rorc_left (ks := []) ha h1 h2 h3 (fun k hk => by cases hk) ra of' t
  exact ⟨rfl, _, q1, q2⟩
theorem rorc_leftB {w0 w w' : World} {o : Nat → Nat} {r : Nat} {T T' : St} {fr sb ks : List Nat} {v : Value} {l : List Int} (h : RefAt ⟨w0, sb⟩ w r fr T) (h1 : ∀ k ∈ fr, o k = 8) (h2 : ∀ k ∈ ks ++ sb, o k = 0) (h3 : ∀ k, k < w0.heap.size → o k = 0) (hks : ∀ k ∈ ks, k < w.heap.size) (hl : RLeftB ⟨w0, ks ++ sb⟩ w r fr T' w' v l) : ∃ o', ROrc w0 w' o' r T' ∧ Kp0 w' o' v l ∧ Mv [8] w o w' o' := by
  obtain ⟨rd, ⟨fr', ra, of', out'⟩, t, own'⟩ := hl
  obtain ⟨q1, q2⟩ := rorc_left h h1 h2 h3 hks ra of' t
  refine ⟨_, q1, ⟨rd, fun _ k hk => ?_⟩, q2⟩
  rw [newBy_new (own' k hk).1]
  exact if_neg (out' k hk)
theorem rorc_wrap {w0 w : World} {o : Nat → Nat} {r : Nat} {S : St} {n : Nat} (h : ROrc w0 w o r S) (hS : Ora S n) (hn : n ≤ 80000) (p k : Int) : Calls Tryz.prog 59 #[ptr r, .int .u64 p, .int .u64 k] w fun e w' => ∃ v', e = .returned (.tuple #[v', .int .i64 (S.wrap p k).1.2]) ∧ ∃ o', ROrc w0 w' o' r (S.wrap p k).2 ∧ Kp0 w' o' v' (S.wrap p k).1.1 ∧ Mv [8] w o w' o' := by
  obtain ⟨fr, sb, ha, h1, h2, h3⟩ := h
  refine (rwrap_any _ w r fr S ha (by have := hS.len; omega) p k).mono ?_
  rintro e w' ⟨v', rfl, hl⟩
  exact ⟨v', rfl, rorc_leftB (ks := []) ha h1 h2 h3 (fun k hk => by cases hk) hl⟩
theorem rorc_seal {w0 w : World} {o : Nat → Nat} {r : Nat} {S : St} {n : Nat} (h : ROrc w0 w o r S) (hS : Ora S n) (hn : n ≤ 80000) (k : Int) {u v : Value} {bd pl : List Int} (hu : Kp0 w o u bd) (hv : Kp0 w o v pl) (hb0 : bd ≠ []) (hp0 : pl ≠ []) (hlen : pl.length ≤ 1000000) : Calls Tryz.prog 37 #[ptr r, .int .u64 k, u, v] w fun e w' => ∃ v', e = .returned (.tuple #[v', .int .i64 (S.seal k bd pl).1.2]) ∧ ∃ o', ROrc w0 w' o' r (S.seal k bd pl).2 ∧ Kp0 w' o' v' (S.seal k bd pl).1.1 ∧ Mv [8] w o w' o' := by
  obtain ⟨fr, sb, ha, h1, h2, h3⟩ := h
  have hks : ∀ k ∈ ksOf u ++ ksOf v, k < w.heap.size ∧ o k = 0 := fun k hk => by
    rcases List.mem_append.1 hk with e | e
    · have e' : u.ownBlock = some k := by simpa [ksOf] using e
      exact ⟨hu.1.blockLt hb0 k e', hu.2 hb0 k e'⟩
    · have e' : v.ownBlock = some k := by simpa [ksOf] using e
      exact ⟨hv.1.blockLt hp0 k e', hv.2 hp0 k e'⟩
  have hw := ha.wider (ksOf u ++ ksOf v) (fun k hk => ⟨fun e => by have := h1 k e; rw [(hks k hk).2] at this; omega, (hks k hk).1⟩)
  refine (rseal_any _ w r fr S hw (by have := hS.len; omega) k u bd ⟨hu.1, fun j hj => .inr (List.mem_append_left _ (List.mem_append_left _ (by simpa [ksOf] using hj)))⟩ v pl ⟨hv.1, fun j hj => .inr (List.mem_append_left _ (List.mem_append_right _ (by simpa [ksOf] using hj)))⟩ hlen).mono ?_
  rintro e w' ⟨v', rfl, hl⟩
  exact ⟨v', rfl, rorc_leftB ha h1 (fun k hk => by
    rcases List.mem_append.1 hk with e | e
    · exact (hks k e).2
    · exact h2 k e) h3 (fun k hk => (hks k hk).1) hl⟩
theorem rorc_unwrap {w0 w : World} {o : Nat → Nat} {r : Nat} {S : St} {n : Nat} (h : ROrc w0 w o r S) (hS : Ora S n) (s : Int) {v : Value} {l : List Int} (hv : Rd w v l) : Calls Tryz.prog 73 #[ptr r, .int .u64 s, v] w fun e w' => e = .returned (.tuple #[.int .u64 (S.unwrap s l).1, .int .i64 (S.unwrap s l).2]) ∧ Below w.heap.size w w' := by
  obtain ⟨fr, sb, ha, h1, h2, h3⟩ := h
  exact runwrap_any _ w r fr S ha hS.fine s v l hv
theorem rorc_open {w0 w : World} {o : Nat → Nat} {r : Nat} {S : St} (h : ROrc w0 w o r S) (k : Int) {u v : Value} {bd l : List Int} (hu : Rd w u bd) (hv : Rd w v l) : Calls Tryz.prog 42 #[ptr r, .int .u64 k, u, v] w fun e w' => ∃ v', e = .returned (.tuple #[v', .int .i64 (S.open k bd l).2]) ∧ Rd w' v' (S.open k bd l).1 ∧ Below w.heap.size w w' := by
  obtain ⟨fr, sb, ha, h1, h2, h3⟩ := h
  exact ropen_any _ w r fr S ha k u bd hu v l hv
end
end Go.Proofs.YtjbpfhnagiacmaaGreat
