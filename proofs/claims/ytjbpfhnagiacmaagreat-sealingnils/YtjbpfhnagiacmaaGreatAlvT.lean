/-
  The chapter's example comes.
-/
import Derived.Test.YtjbpfhnagiacmaaGreatRom
import Derived.Test.YtjbpfhnagiacmaaGreatRmP
import Derived.Lib.SlBytesConst
namespace Go.Proofs.YtjbpfhnagiacmaaGreat
set_option linter.unusedVariables false
set_option linter.unusedSimpArgs false
set_option synthInstance.maxSize 20000
set_option maxHeartbeats 2000000
set_option maxRecDepth 20000
open Go.RowKit Go.Maps
theorem rd_row (w : World) (l : List Int) (e : TypeId) (m : Nat × Nat) (ho : Oct l) (hl : l.length ≤ maxLen) : Rd (w.alloc (.cells (cs8 l).toArray e m)) (.slice (some ⟨w.heap.size, 0, none⟩) l.length l.length) l := by
  refine ⟨ho, some ⟨w.heap.size, 0, none⟩, l.length, rfl, Nat.le_refl _, hl, (fun h => by cases h), fun _ => ⟨w.heap.size, 0, rfl, fun j hj => ?_⟩⟩
  have hh : (w.alloc (.cells (cs8 l).toArray e m)).heap[w.heap.size]? = some (.cells (cs8 l).toArray e m) := by
    show (w.heap.push _)[w.heap.size]? = _
    simp
  unfold World.cell?
  simp only [hh, Nat.zero_add]
  simpa using cs8_at l j hj
theorem rnK_key {S : St} (h : Ora S 0) {k i : Nat} (hk : k ≤ 20) (hi : i < k) : ∃ x, keyM (rnK S k).A.ks i = (x, 0) ∧ (rnK S k).S.at x = some .key ∧ U64 x := by
  obtain ⟨K, O, hr⟩ := rnK_ok h k hk
  exact hr.keyA hi
theorem cls_one : cls ([120] : List Int).length ≠ -1 := cls_no.2 (by simp)
theorem zeros_one : zerosOf [120] = 16 := by decide
def RA0 : Rn := rnK ⟨[], []⟩ 1
theorem alive_num : ∃ x g, keyM RA0.A.ks 0 = (x, 0) ∧ U64 x ∧ Ora RA0.S 8 ∧ Ora (sealM RA0.S (x, 0) 1 0 0 [120]).2 9 ∧ (sealM RA0.S (x, 0) 1 0 0 [120]).1 = (boxOf g 16, 0) ∧ openM (sealM RA0.S (x, 0) 1 0 0 [120]).2 (x, 0) ⟨1, 0, 0, 1, 1, 0, boxOf g 16, 0⟩ = ([120], 0) ∧ (openM (sealM RA0.S (x, 0) 1 0 0 [120]).2 (x, 0) ⟨1, 1, 5, 1, 1, 0, boxOf g 16, 0⟩).2 = 5 := by
  have h00 : Ora ⟨[], []⟩ 0 := ora00 (ds := []) (fun d hd => by cases hd)
  obtain ⟨K, O, hr⟩ := rnK_ok h00 1 (by omega)
  obtain ⟨x, h1, h2, h3⟩ := hr.keyA (i := 0) (by omega)
  have hora : Ora RA0.S 8 := hr.ora
  have hp : placeB 1 0 0 = true := by decide
  have hk : RA0.S.at (x, (0 : Int)).1 = some .key := h2
  have hs : sealM RA0.S (x, 0) 1 0 0 [120] = ((boxOf RA0.S.fresh 16, 0), RA0.S.put (.seal x (boundL 1 0 0) [120])) := by
    unfold sealM
    rw [if_pos hp, if_pos rfl, seal_yes hk cls_one, zeros_one]
  have hf := (fresh_ok hora.good (by have := hora.len; omega)).2.2.1
  have ha : (RA0.S.put (.seal x (boundL 1 0 0) [120])).at RA0.S.fresh = some (.seal x (boundL 1 0 0) [120]) := at_put_new hora.good (by have := hora.len; omega) _
  refine ⟨x, RA0.S.fresh, h1, h3, hora, ?_, by rw [hs], ?_, ?_⟩
  · exact sealM_ora hora (by omega) (fun _ => hk) 1 0 0 (Oct.cons (by omega) Oct.nil) (by simp)
  · rw [hs]
    have := open_back hora (by omega) (kk := (x, 0)) rfl hk (pl := [120]) hp
    rw [zeros_one] at this
    exact this
  · rw [hs]
    have hr1 : eRight ⟨1, 1, 5, 1, 1, 0, boxOf RA0.S.fresh 16, 0⟩ = true := by
      rw [eRight_iff]
      unfold rightE rightP
      dsimp only
      rw [boxOf_length]
      refine ⟨by omega, by omega, by omega, by omega, rfl, by omega, by omega⟩
    unfold openM
    rw [if_pos hr1, if_neg (by decide), if_pos rfl]
    show (St.open _ x (boundL 1 1 0) (boxOf RA0.S.fresh 16)).2 = 5
    have ho := open_box (k := x) (b := boundL 1 1 0) hf ha
    rw [zeros_one, if_pos rfl, if_neg] at ho
    · rw [ho]
    · intro e
      have hd := bound_inj (w := 1) (i := 0) (n := 0) (x := 1) (y := 1) (z := 0) (by unfold I64; omega) (by unfold I64; omega) (by unfold I64; omega) (by unfold I64; omega) (by unfold I64; omega) (by unfold I64; omega)
      rw [decide_eq_true e] at hd
      have hd2 := of_decide_eq_true hd.symm
      omega
theorem Rd.pastE {w w' : World} {v : Value} {l : List Int} {b : Nat} {e : TypeId} {vs : List Value} (h : Rd w v l) (hb : Blk w b e vs) (hno : ∀ (i : Nat) (x : Int), vs[i]? ≠ some (Value.int .u8 x)) (hg : w.grownBy w' (some b)) : Rd w' v l := by
  obtain ⟨ho, a, cap, rfl, h1, h2, h3, h4⟩ := h
  refine ⟨ho, a, cap, rfl, h1, h2, h3, fun hp => ?_⟩
  obtain ⟨b2, off, rfl, hc⟩ := h4 hp
  refine ⟨b2, off, rfl, fun j hj => ?_⟩
  have hj' := hc j hj
  by_cases hbb : b2 = b
  · subst hbb
    exfalso
    unfold Blk at hb
    simp only [World.cell?, hb] at hj'
    refine hno (off + j) (l.getD j 0) ?_
    simpa using hj'
  · have hblk : w'.heap[b2]? = w.heap[b2]? := hg.block b2 (World.block_lt_of_cell? w _ hj') (fun e => hbb (Option.some.inj e))
    rw [← hj']
    simp only [World.cell?, hblk]
set_option maxHeartbeats 4000000 in
theorem alive7 (w : World) : Calls Tryz.prog 7 #[] w fun r w' => r = .returned (.bool true) ∧ Below w.heap.size w w' := by
  have HRm : Hid (Calls Tryz.prog 8 #[.slice none 0 0, .int .i64 1] w (RoPost w ⟨[], []⟩ 1)) := newRoom8 (rdU_nil w) (by simp) 1 (by omega)
  have kc := fun (w : World) (C : Array Value) (n c : Nat) => Lib.run_convert_bytes_const (P := Tryz.prog) w 25 5 C n c Tryz.underlying25 Tryz.underlying5
  go_enter Tryz.func7, Tryz.ntmps7
  go_upto_region 4 with (go_at_call 8; go_must (refine HRm.out.mono ?_; rintro r w2 ⟨p, o, sv, tv, rfl, hG⟩))
  obtain ⟨x, g, hky, hxu, hora, hora2, hs1, hq1, hq2⟩ := alive_num
  unfold RA0 at hky hora hora2 hs1 hq1 hq2
  obtain ⟨R, hR⟩ : ∃ R, R = rnK ⟨[], []⟩ 1 := ⟨_, rfl⟩
  rw [← hR] at hG hky hora hora2 hs1 hq1 hq2
  obtain ⟨S2, hS2⟩ : ∃ S2, S2 = (sealM R.S (x, 0) 1 0 0 [120]).2 := ⟨_, rfl⟩
  rw [← hS2] at hora2 hq1 hq2
  have HG : Hid (RG w w2 o p R.S R.S R.M R.M R.A R.X R.B sv tv) := hG
  have HS : Hid (∀ w' o' v, OrcAt w' o' p.ob R.S → RIs w' o' 10 p.ra p.ob R.A → Rd w' v [120] → Calls Tryz.prog 9 #[ptr p.ob, ptr p.ra, .int .i64 1, .int .i64 0, .int .i64 0, v] w' fun e w'' => ∃ v', e = .returned (.tuple #[v', .int .i64 0]) ∧ ∃ o'', OrcAt w'' o'' p.ob S2 ∧ Kp0 w'' o'' v' (boxOf g 16) ∧ Mv [1] w' o' w'' o'') := fun w' o' v h1 h2 hv => by
    have h3 := orc_seal9 h1 h2 hora (by omega) (x := 1) (y := 0) (n := 0) (by rw [hky]; exact hxu) hv (by simp)
    rw [hky, hs1, ← hS2] at h3
    exact h3
  have HO1 : Hid (∀ w' o' v, OrcAt w' o' p.ob S2 → RIs w' o' 10 p.ra p.ob R.A → Rd w' v (boxOf g 16) → Calls Tryz.prog 12 #[ptr p.ob, ptr p.ra, .agg #[.int .i64 1, .int .i64 0, .int .u64 0, .int .i64 1, .int .i64 1, .int .i64 0, v, .int .u64 0]] w' fun z w'' => ∃ v', z = .returned (.tuple #[v', .int .i64 0]) ∧ Rd w'' v' [120] ∧ Below w'.heap.size w' w'') := fun w' o' v h1 h2 hv => by
    have h3 := orc_open12 h1 h2 hora2 (e := ⟨1, 0, 0, 1, 1, 0, boxOf g 16, 0⟩) hv
    dsimp only at h3
    rw [hky, hq1] at h3
    exact h3
  have HO2 : Hid (∀ w' o' v, OrcAt w' o' p.ob S2 → RIs w' o' 10 p.ra p.ob R.A → Rd w' v (boxOf g 16) → Calls Tryz.prog 12 #[ptr p.ob, ptr p.ra, .agg #[.int .i64 1, .int .i64 1, .int .u64 5, .int .i64 1, .int .i64 1, .int .i64 0, v, .int .u64 0]] w' fun z w'' => ∃ v', z = .returned (.tuple #[v', .int .i64 5]) ∧ Below w'.heap.size w' w'') := fun w' o' v h1 h2 hv => by
    have h3 := orc_open12 h1 h2 hora2 (e := ⟨1, 1, 5, 1, 1, 0, boxOf g 16, 0⟩) hv
    dsimp only at h3
    rw [hky, hq2] at h3
    refine h3.mono ?_
    rintro z w'' ⟨v', rfl, _, h4⟩
    exact ⟨v', rfl, h4⟩
  have HCl : Hid (∀ w' v, Rd w' v (boxOf g 16) → Calls Tryz.prog 14 #[.agg #[.int .i64 1, .int .i64 1, .int .u64 5, .int .i64 1, .int .i64 1, .int .i64 0, v, .int .u64 0]] w' fun z w'' => z = .returned (.int .i64 0) ∧ Below w'.heap.size w' w'') := fun w' v hv => by
    have h3 := class14 (e := ⟨1, 1, 5, 1, 1, 0, boxOf g 16, 0⟩) hv
    dsimp only at h3
    rw [boxOf_length] at h3
    exact h3
  have HLen : Hid ((boxOf g 16).length = 24) := (show _ = _ by rw [boxOf_length])
  clear hky hxu hora hora2 hs1 hq1 hq2 hR hS2 hG HRm
  have ne9 : Nonempty (WIn (fun w' => Blk w' p.wb 42 (rcs p))) := ⟨⟨w2, HG.out.blk⟩⟩
  have z0 : ∀ z : WIn (fun w' => Blk w' p.wb 42 (rcs p)), _ := fun z => z.ok.cell 0 _ rfl
  have z2 : ∀ z : WIn (fun w' => Blk w' p.wb 42 (rcs p)), _ := fun z => z.ok.cell 2 _ rfl
  have HD : Hid (RG w w2.drew o p R.S R.S R.M R.M R.A R.X R.B sv tv) := HG.out.mv (mv_drew [] _ _) (by simp)
  go_cut [2, 3] (fun bv kv wx => ∃ (va : Option Addr) (vn vc : Nat) (o5 : Nat → Nat), bv = .slice va vn vc ∧ kv = .int .i64 0 ∧ Hid (OrcAt wx o5 p.ob S2 ∧ RIs wx o5 10 p.ra p.ob R.A ∧ Blk wx p.wb 42 (rcs p) ∧ Below w.heap.size w wx ∧ Kp0 wx o5 (.slice va vn vc) (boxOf g 16)))
  case first =>
    refine wp_region_ord (C := fun w' => ∃ z : WIn (fun w' => Blk w' p.wb 42 (rcs p)), w' = z.w) [(false, 0), (false, 1), (false, 2), (false, 3), (false, 4), (false, 5), (false, 6), (false, 7), (true, 8), (true, 9), (true, 10), (false, 11), (false, 12), (false, 13), (false, 14), (false, 15)] (by kernel_rfl) (by kernel_rfl) ⟨⟨w2.drew, HD.out.blk⟩, rfl⟩ ?_
    generalize w2.drew = wd at *
    iterate 8 (refine ord_still rfl rfl ?_; go_big_quiet_step (exact rfl); refine wpQuiet_nil ?_)
    refine ord_mem rfl rfl ?_
    go_simp
    refine ⟨⟨⟨_, HD.out.blk.alloc _⟩, rfl⟩, ?_⟩
    go_simp
    refine ord_mem rfl rfl ?_
    go_simp
    refine ⟨⟨⟨_, HD.out.blk.alloc _⟩, rfl⟩, ?_⟩
    go_simp
    have hb3 : Below wd.heap.size wd (wd.alloc (.cells #[.int .u8 120] 5 (1, 2))) := balloc (Below.refl _ _) _
    have hr3 : Rd (wd.alloc (.cells #[.int .u8 120] 5 (1, 2))) (.slice (some ⟨wd.heap.size, 0, none⟩) 1 1) [120] := rd_row wd [120] 5 (1, 2) (Oct.cons (by omega) Oct.nil) (by simp [maxLen])
    have hG3 := HD.out.below hb3 0
    refine ord_mem rfl rfl ?_
    go_simp
    refine (HS.out _ _ _ hG3.orc hG3.a hr3).mono ?_
    rintro r w5 ⟨v5, rfl, o5, hO5, hK5, hM5⟩
    obtain ⟨va, vc, e5⟩ := hK5.1.len
    subst e5
    have hG5 := hG3.orcS hM5 hO5
    refine ⟨⟨⟨w5, hG5.blk⟩, rfl⟩, ?_⟩
    go_simp
    iterate 5 (refine ord_still rfl rfl ?_; go_big_quiet_step (exact rfl); refine wpQuiet_nil ?_)
    refine ord_end ?_
    go_wp2
    go_meet
    exact ⟨_, _, _, o5, rfl, rfl, hO5, hG5.a, hG5.blk, hG5.bel, hK5⟩
  case rest =>
  obtain ⟨va, vn, vc, o5, rfl, rfl, HC⟩ := hcut
  obtain ⟨W5, hW5⟩ : ∃ W5, W5 = wc := ⟨_, rfl⟩
  subst hW5
  clear HD HG HS ne9 z0 z2 kc
  obtain ⟨W6, hW6⟩ : ∃ W6, W6 = W5.alloc (.cells #[.int .i64 1, .int .i64 0, .int .u64 0, .int .i64 1, .int .i64 1, .int .i64 0, .slice va vn vc, .int .u64 0] 30) := ⟨_, rfl⟩
  have hb6 : Below W5.heap.size W5 W6 := by rw [hW6]; exact balloc (Below.refl _ _) _
  have hE6 : Blk W6 W5.heap.size 30 [.int .i64 1, .int .i64 0, .int .u64 0, .int .i64 1, .int .i64 1, .int .i64 0, .slice va vn vc, .int .u64 0] := by rw [hW6]; exact blk_new W5 _ 30
  have hM6 : Mv [] W5 o5 W6 (newTo o5 W5 9) := Mv.of_below (I := []) 9 hb6
  have hoe : newTo o5 W5 9 W5.heap.size = 9 := newTo_new (Nat.le_refl _)
  have HC6 : Hid (OrcAt W6 (newTo o5 W5 9) p.ob S2 ∧ RIs W6 (newTo o5 W5 9) 10 p.ra p.ob R.A ∧ Blk W6 p.wb 42 (rcs p) ∧ Below w.heap.size w W6 ∧ Kp0 W6 (newTo o5 W5 9) (.slice va vn vc) (boxOf g 16)) := ⟨HC.out.1.mv hM6 (by simp), HC.out.2.1.mv hM6 (by simp) (by simp), HC.out.2.2.1.below hb6, bnext HC.out.2.2.2.1 hb6, HC.out.2.2.2.2.mv hM6 (by simp)⟩
  have hwlt : p.wb < W5.heap.size := HC.out.2.2.1.lt
  have hws : w.heap.size ≤ W5.heap.size := HC.out.2.2.2.1.size
  go_upto_region 6 with fail
  rw [← hW6]
  generalize newTo o5 W5 9 = o6 at *
  obtain ⟨eb, heb⟩ : ∃ eb, eb = W5.heap.size := ⟨_, rfl⟩
  rw [← heb] at hE6 hoe hwlt hws ⊢
  have HE6 : Hid (Blk W6 eb 30 [.int .i64 1, .int .i64 0, .int .u64 0, .int .i64 1, .int .i64 1, .int .i64 0, .slice va vn vc, .int .u64 0] ∧ o6 eb = 9 ∧ p.wb < eb ∧ w.heap.size ≤ eb) := ⟨hE6, hoe, hwlt, hws⟩
  have t0 := hE6.cell 0 _ rfl; have t1 := hE6.cell 1 _ rfl; have t2 := hE6.cell 2 _ rfl; have t3 := hE6.cell 3 _ rfl; have t4 := hE6.cell 4 _ rfl; have t5 := hE6.cell 5 _ rfl; have t6 := hE6.cell 6 _ rfl; have t7 := hE6.cell 7 _ rfl
  have x0 := HC6.out.2.2.1.cell 0 _ rfl; have x2 := HC6.out.2.2.1.cell 2 _ rfl
  clear hW6 hb6 hM6 HC heb hE6 hoe hwlt hws
  have ne6 : Nonempty (WIn (fun w' => Below W6.heap.size W6 w')) := ⟨⟨W6, Below.refl _ _⟩⟩
  have hcl : ∀ (z : WIn (fun w' => Below W6.heap.size W6 w')) p v, W6.cell? p = some v → z.w.cell? p = some v := fun z p v hp => (z.ok.cell (World.block_lt_of_cell? W6 _ hp)).trans hp
  have y0 := fun z => hcl z _ _ x0; have y2 := fun z => hcl z _ _ x2
  have u0 := fun z => hcl z _ _ t0; have u1 := fun z => hcl z _ _ t1; have u2 := fun z => hcl z _ _ t2; have u3 := fun z => hcl z _ _ t3; have u4 := fun z => hcl z _ _ t4; have u5 := fun z => hcl z _ _ t5; have u6 := fun z => hcl z _ _ t6; have u7 := fun z => hcl z _ _ t7
  have HD6 : Hid (Below W6.heap.size W6 W6.drew) := (show Below _ _ _ from (Below.refl _ _).drew)
  clear hcl t0 t1 t2 t3 t4 t5 t6 t7
  refine wp_region_ord (C := fun w' => ∃ z : WIn (fun w' => Below W6.heap.size W6 w'), w' = z.w) [(false, 0), (false, 1), (false, 2), (false, 3), (false, 4), (false, 5), (false, 6), (false, 7), (false, 8), (true, 9), (false, 10), (false, 11), (false, 12), (false, 13), (false, 14)] (by kernel_rfl) (by kernel_rfl) ⟨⟨W6.drew, HD6.out⟩, rfl⟩ ?_
  iterate 9 (refine ord_still rfl rfl ?_; go_big_quiet_step (exact rfl); refine wpQuiet_nil ?_)
  refine ord_mem rfl rfl ?_
  go_simp
  refine (HO1.out _ (newTo o6 W6 0) _ (HC6.out.1.mv (Mv.of_below (I := []) 0 HD6.out) (by simp)) (HC6.out.2.1.mv (Mv.of_below (I := []) 0 HD6.out) (by simp) (by simp)) (HC6.out.2.2.2.2.1.below HD6.out)).mono ?_
  rintro r w7 ⟨v7, rfl, hv7, hb7⟩
  have HB7 : Hid (Below W6.heap.size W6 w7) := (show Below _ _ _ from bnext HD6.out hb7)
  refine ⟨⟨⟨w7, HB7.out⟩, rfl⟩, ?_⟩
  go_simp
  iterate 5 (refine ord_still rfl rfl ?_; go_big_quiet_step (exact rfl); refine wpQuiet_nil ?_)
  refine ord_end ?_
  obtain ⟨ta, tc, ht7⟩ := hv7.len
  subst ht7
  have hM7 : Mv [] W6 o6 w7 (newTo o6 W6 0) := Mv.of_below (I := []) 0 HB7.out
  have hE7 := HE6.out.1.below HB7.out
  have ho7 : newTo o6 W6 0 eb = 9 := by rw [newTo_old HE6.out.1.lt]; exact HE6.out.2.1
  have HT7 : Hid (Rd w7 (.slice ta 1 tc) [120]) := hv7
  have HC7 : Hid (OrcAt w7 (newTo o6 W6 0) p.ob S2 ∧ RIs w7 (newTo o6 W6 0) 10 p.ra p.ob R.A ∧ Blk w7 p.wb 42 (rcs p) ∧ Below w.heap.size w w7 ∧ Kp0 w7 (newTo o6 W6 0) (.slice va vn vc) (boxOf g 16)) := ⟨HC6.out.1.mv hM7 (by simp), HC6.out.2.1.mv hM7 (by simp) (by simp), HC6.out.2.2.1.below HB7.out, bnext HC6.out.2.2.2.1 HB7.out, HC6.out.2.2.2.2.mv hM7 (by simp)⟩
  have HE7 : Hid (Blk w7 eb 30 [.int .i64 1, .int .i64 0, .int .u64 0, .int .i64 1, .int .i64 1, .int .i64 0, .slice va vn vc, .int .u64 0] ∧ newTo o6 W6 0 eb = 9 ∧ p.wb < eb ∧ w.heap.size ≤ eb) := ⟨hE7, ho7, HE6.out.2.2⟩
  generalize newTo o6 W6 0 = o7 at *
  have t1 := hE7.cell 1 _ rfl; have t2 := hE7.cell 2 _ rfl; have f1 := hE7.frozen 1; have f2 := hE7.frozen 2
  clear HC6 HE6 HD6 HB7 hM7 hE7 ho7 hv7 hb7 x0 x2 y0 y2 u0 u1 u2 u3 u4 u5 u6 u7 ne6 HO1
  go_upto_region 9 with fail
  have g8 : w7.grownBy ((w7.setCell ⟨eb, 1, none⟩ (.int .i64 1)).setCell ⟨eb, 2, none⟩ (.int .u64 5)) (some eb) := grown_trans (grown_setCell w7 eb 1 _) (grown_setCell _ eb 2 _) (fun k hk => .inl hk)
  have hM8 : Mv [9] w7 o7 ((w7.setCell ⟨eb, 1, none⟩ (.int .i64 1)).setCell ⟨eb, 2, none⟩ (.int .u64 5)) (newTo o7 w7 0) := Mv.of_turn 0 (turn_grown g8) (fun k hk _ => by
    simp at hk
    subst hk
    rw [HE7.out.2.1]; decide)
  have hE8 : Blk ((w7.setCell ⟨eb, 1, none⟩ (.int .i64 1)).setCell ⟨eb, 2, none⟩ (.int .u64 5)) eb 30 [.int .i64 1, .int .i64 1, .int .u64 5, .int .i64 1, .int .i64 1, .int .i64 0, .slice va vn vc, .int .u64 0] := (HE7.out.1.set 1 _).set 2 _
  have HT8 : Hid (Rd ((w7.setCell ⟨eb, 1, none⟩ (.int .i64 1)).setCell ⟨eb, 2, none⟩ (.int .u64 5)) (.slice ta 1 tc) [120]) := (show Rd _ _ _ from Rd.pastE HT7.out HE7.out.1 (fun i x => by
    rcases i with _ | _ | _ | _ | _ | _ | _ | _ | i <;> simp) g8)
  have hB8 : Below w.heap.size w ((w7.setCell ⟨eb, 1, none⟩ (.int .i64 1)).setCell ⟨eb, 2, none⟩ (.int .u64 5)) := (HC7.out.2.2.2.1.setCell HE7.out.2.2.2 _).setCell HE7.out.2.2.2 _
  have HC8 : Hid (OrcAt ((w7.setCell ⟨eb, 1, none⟩ (.int .i64 1)).setCell ⟨eb, 2, none⟩ (.int .u64 5)) (newTo o7 w7 0) p.ob S2 ∧ RIs ((w7.setCell ⟨eb, 1, none⟩ (.int .i64 1)).setCell ⟨eb, 2, none⟩ (.int .u64 5)) (newTo o7 w7 0) 10 p.ra p.ob R.A ∧ Blk ((w7.setCell ⟨eb, 1, none⟩ (.int .i64 1)).setCell ⟨eb, 2, none⟩ (.int .u64 5)) p.wb 42 (rcs p) ∧ Below w.heap.size w ((w7.setCell ⟨eb, 1, none⟩ (.int .i64 1)).setCell ⟨eb, 2, none⟩ (.int .u64 5)) ∧ Kp0 ((w7.setCell ⟨eb, 1, none⟩ (.int .i64 1)).setCell ⟨eb, 2, none⟩ (.int .u64 5)) (newTo o7 w7 0) (.slice va vn vc) (boxOf g 16)) := ⟨HC7.out.1.mv hM8 (by decide), HC7.out.2.1.mv hM8 (by decide) (by decide), HC7.out.2.2.1.block (g8.block _ HC7.out.2.2.1.lt (fun e => by have := Option.some.inj e; have := HE7.out.2.2.1; omega)), hB8, HC7.out.2.2.2.2.mv hM8 (by decide)⟩
  clear hM8 hB8 g8 t1 t2 f1 f2 HT7 HC7 HE7
  generalize (w7.setCell ⟨eb, 1, none⟩ (.int .i64 1)).setCell ⟨eb, 2, none⟩ (.int .u64 5) = W8 at *
  generalize newTo o7 w7 0 = o8 at *
  have HE8 : Hid (Blk W8 eb 30 [.int .i64 1, .int .i64 1, .int .u64 5, .int .i64 1, .int .i64 1, .int .i64 0, .slice va vn vc, .int .u64 0]) := hE8
  have t0 := hE8.cell 0 _ rfl; have t1 := hE8.cell 1 _ rfl; have t2 := hE8.cell 2 _ rfl; have t3 := hE8.cell 3 _ rfl; have t4 := hE8.cell 4 _ rfl; have t5 := hE8.cell 5 _ rfl; have t6 := hE8.cell 6 _ rfl; have t7 := hE8.cell 7 _ rfl
  have x0 := HC8.out.2.2.1.cell 0 _ rfl; have x2 := HC8.out.2.2.1.cell 2 _ rfl
  clear hE8
  have ne9 : Nonempty (WIn (fun w' => Below W8.heap.size W8 w')) := ⟨⟨W8, Below.refl _ _⟩⟩
  have hcl : ∀ (z : WIn (fun w' => Below W8.heap.size W8 w')) p v, W8.cell? p = some v → z.w.cell? p = some v := fun z p v hp => (z.ok.cell (World.block_lt_of_cell? W8 _ hp)).trans hp
  have y0 := fun z => hcl z _ _ x0; have y2 := fun z => hcl z _ _ x2
  have u0 := fun z => hcl z _ _ t0; have u1 := fun z => hcl z _ _ t1; have u2 := fun z => hcl z _ _ t2; have u3 := fun z => hcl z _ _ t3; have u4 := fun z => hcl z _ _ t4; have u5 := fun z => hcl z _ _ t5; have u6 := fun z => hcl z _ _ t6; have u7 := fun z => hcl z _ _ t7
  have HD9 : Hid (Below W8.heap.size W8 W8.drew) := (show Below _ _ _ from (Below.refl _ _).drew)
  clear hcl t0 t1 t2 t3 t4 t5 t6 t7
  refine wp_region_ord (C := fun w' => ∃ z : WIn (fun w' => Below W8.heap.size W8 w'), w' = z.w) [(false, 0), (false, 1), (false, 2), (false, 3), (false, 4), (false, 5), (false, 6), (false, 7), (false, 8), (true, 9), (false, 10), (false, 11), (false, 12), (false, 13), (false, 14)] (by kernel_rfl) (by kernel_rfl) ⟨⟨W8.drew, HD9.out⟩, rfl⟩ ?_
  iterate 9 (refine ord_still rfl rfl ?_; go_big_quiet_step (exact rfl); refine wpQuiet_nil ?_)
  refine ord_mem rfl rfl ?_
  go_simp
  refine (HO2.out _ (newTo o8 W8 0) _ (HC8.out.1.mv (Mv.of_below (I := []) 0 HD9.out) (by simp)) (HC8.out.2.1.mv (Mv.of_below (I := []) 0 HD9.out) (by simp) (by simp)) (HC8.out.2.2.2.2.1.below HD9.out)).mono ?_
  rintro r w9 ⟨v9, rfl, hb9⟩
  have HB9 : Hid (Below W8.heap.size W8 w9) := (show Below _ _ _ from bnext HD9.out hb9)
  refine ⟨⟨⟨w9, HB9.out⟩, rfl⟩, ?_⟩
  go_simp
  iterate 5 (refine ord_still rfl rfl ?_; go_big_quiet_step (exact rfl); refine wpQuiet_nil ?_)
  refine ord_end ?_
  have hE9 := HE8.out.below HB9.out
  have hT9 := HT8.out.below HB9.out
  have HV9 : Hid (Rd w9 (.slice va vn vc) (boxOf g 16)) := HC8.out.2.2.2.2.1.below HB9.out
  have HF9 : Hid (Below w.heap.size w w9) := (show Below _ _ _ from bnext HC8.out.2.2.2.1 HB9.out)
  have hcv := run_convert_rd (P := Tryz.prog) w9 25 9 5 (by kernel_rfl) (by kernel_rfl) (by kernel_rfl) (.slice ta 1 tc) [120] hT9
  have hs120 : strOfNums [120] = ⟨#[120]⟩ := rfl
  rw [hs120] at hcv
  have t0 := hE9.cell 0 _ rfl; have t1 := hE9.cell 1 _ rfl; have t2 := hE9.cell 2 _ rfl; have t3 := hE9.cell 3 _ rfl; have t4 := hE9.cell 4 _ rfl; have t5 := hE9.cell 5 _ rfl; have t6 := hE9.cell 6 _ rfl; have t7 := hE9.cell 7 _ rfl
  clear hs120 hE9 hT9 y0 y2 u0 u1 u2 u3 u4 u5 u6 u7 ne9 HD9 HB9 HC8 HT8 HE8 HO2
  go_wp2_with (go_at_call 14; go_must (refine (HCl.out w9 _ HV9.out).mono ?_; rintro r w10 ⟨rfl, hb10⟩))
  go_ret
  exact ⟨rfl, bnext HF9.out hb10⟩
end Go.Proofs.YtjbpfhnagiacmaaGreat
