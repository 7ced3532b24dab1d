/-
  The oracle's Verify.
-/
import Derived.Test.YteedjdflojfhmaaSign
namespace Go.Proofs.Yteedjdflojfhmaa
set_option linter.unusedVariables false
set_option synthInstance.maxSize 20000
open Classical
open Go.RowKit Go.Maps

theorem at_use (S : St) (g : Int) : (((S.at g).map thingOf).getD noThing).use = 3 ↔ ∃ s, S.at g = some (.pub s) := by
  cases S.at g with
  | none => simp [noThing]
  | some x => cases x using What.each <;> simp [thingOf]
theorem verify_pub {S : St} {p s : Int} (h : S.at p = some (.pub s)) (l : List Int) (g : Int) : S.verify p l g = decide (S.of (.sig s l) = some g) := by unfold St.verify; rw [h]
theorem verify_no {S : St} {p : Int} (h : ¬ ∃ s, S.at p = some (.pub s)) (l : List Int) (g : Int) : S.verify p l g = false := by
  unfold St.verify
  split
  · rename_i s e; exact absurd ⟨s, e⟩ h
  · rfl

set_option maxHeartbeats 2000000 in
set_option maxRecDepth 20000 in
theorem verify_any (w : World) (b : Nat) (ft : List Nat) (S : St) (h : Rep w b ft S) (p : Int) (hp : U64 p) (v : Value) (l : List Int) (hv : Rd w v l) (hl : l.length ≤ 900000) (g : Int) :
    Calls Try.prog 93 #[ptr b, .int .u64 p, v, .int .u64 g] w fun e w' => e = .returned (.bool (S.verify p l g)) ∧ Below w.heap.size w w' := by
  obtain ⟨T, dv, m1, m2, m3, hi, st⟩ := h
  have ho := hv.oct
  have c2 := hi.blk.cell 2 _ rfl
  have c4 := hi.blk.cell 4 _ rfl
  have hlk := hi.look hp
  have HA : Hid ((T.at p).use = 3 ↔ ∃ s, S.at p = some (.pub s)) := by rw [st.at]; exact at_use S p
  have HB : Hid (∀ s, S.at p = some (.pub s) → (T.at p).secret = s ∧ U64 s) := fun s e => by rw [st.at, e]; exact ⟨rfl, (at_ok st.good e).2.2⟩
  have HS : Hid (Stand T S) := st
  have HI : Hid (IsO w b ft T dv m1 m2 m3) := hi
  have HV : Hid (Rd w v l) := hv
  clear hi st hv
  unfold thingVal at hlk
  generalize T.at p = t at hlk HA HB
  by_cases hpub : t.use = 3
  · obtain ⟨s, hs⟩ := HA.out.1 hpub
    obtain ⟨hsec, hU⟩ := HB.out s hs
    have hu : (t.use != 3) = false := by simpa using hpub
    rw [verify_pub hs]
    rw [← HS.out.signed s l hU ho]
    have HSEC : Hid (t.secret = s) := hsec
    have HLS : Hid (∀ w1 : World, Below w.heap.size w w1 → (Instr.lookup 80 m3 (.string (strOfNums (be8 s ++ l))) true).run Try.prog w1 = .ok (.tuple #[markVal ((T.signed (be8 s ++ l)).getD 0), .bool (T.signed (be8 s ++ l)).isSome]) w1) := fun w1 hb => (HI.out.below hb).look_signed ((be8_oct s).append ho) (by rw [List.length_append, be8_length]; unfold maxLen; omega)
    clear hs hsec hpub HA HB
    generalize T.signed (be8 s ++ l) = r at HLS ⊢
    unfold markVal at HLS
    rw [← HSEC.out] at HLS hU
    have hrq : decide (r = some g) = (r.isSome && decide (r.getD 0 = g)) := by cases r <;> simp
    rw [hrq]
    clear hrq
    generalize r.isSome = q at HLS ⊢
    generalize r.getD 0 = x at HLS ⊢
    have ca : (w.alloc (.cells #[.int .i64 t.use, .int .u64 t.secret, .int .u64 t.key, .int .i64 t.zeros, .string (strOfNums t.bound), .string (strOfNums t.plain)] 86)).cell? ⟨b, 4, none⟩ = some m3 := (HI.out.below (balloc (Below.refl _ w) _)).blk.cell 4 _ rfl
    have cb : ((w.alloc (.cells #[.int .i64 t.use, .int .u64 t.secret, .int .u64 t.key, .int .i64 t.zeros, .string (strOfNums t.bound), .string (strOfNums t.plain)] 86)).alloc (.cells #[.int .u64 0] 146)).cell? ⟨b, 4, none⟩ = some m3 := (HI.out.below (balloc (balloc (Below.refl _ w) _) _)).blk.cell 4 _ rfl
    have cc : ((w.alloc (.cells #[.int .i64 t.use, .int .u64 t.secret, .int .u64 t.key, .int .i64 t.zeros, .string (strOfNums t.bound), .string (strOfNums t.plain)] 86)).drew.alloc (.cells #[.int .u64 0] 146)).cell? ⟨b, 4, none⟩ = some m3 := (HI.out.below (balloc (balloc (Below.refl _ w) _).drew _)).blk.cell 4 _ rfl
    have hlt : b < w.heap.size := HI.out.blk.lt
    go_enter Try.func93, Try.ntmps93
    go_wp2
    go_region_with (go_at_call 85; go_must (first
      | (refine (bySecret_any t.secret v l (w.alloc (.cells #[.int .i64 t.use, .int .u64 t.secret, .int .u64 t.key, .int .i64 t.zeros, .string (strOfNums t.bound), .string (strOfNums t.plain)] 86)).drew hU (HV.out.below (balloc (Below.refl _ w) _)).drew (by omega)).mono ?_; rintro e w1 ⟨rfl, hb1⟩; have HB1 : Hid (Below w.heap.size w w1) := bnext (balloc (Below.refl _ w) _) (undrew hb1); have c4' := (HI.out.below HB1.out).blk.cell 4 _ rfl; have c4'' : (w1.alloc (.cells #[.int .u64 0] 146)).cell? ⟨b, 4, none⟩ = some m3 := (HI.out.below (balloc HB1.out _)).blk.cell 4 _ rfl; have q1 := HLS.out w1 HB1.out; have q2 := HLS.out (w1.alloc (.cells #[.int .u64 0] 146)) (balloc HB1.out _))
      | (refine (bySecret_any t.secret v l _ hU (HV.out.below (balloc (balloc (Below.refl _ w) _).drew _)) (by omega)).mono ?_; rintro e w1 ⟨rfl, hb1⟩; have HB1 : Hid (Below w.heap.size w w1) := bnext (balloc (balloc (Below.refl _ w) _).drew _) hb1; have c4' := (HI.out.below HB1.out).blk.cell 4 _ rfl; have q1 := HLS.out w1 HB1.out; have X := (blk2_1 w [.int .i64 t.use, .int .u64 t.secret, .int .u64 t.key, .int .i64 t.zeros, .string (strOfNums t.bound), .string (strOfNums t.plain)] [.int .u64 0] 86 146).block (hb1.block (w.heap.size + 1) (by simp)); have j0 := X.cell 0 _ rfl; have i0 := X.frozen 0; clear X)))
    all_goals
      cases q
      all_goals go_wp2
      all_goals go_ret
      all_goals refine ⟨?_, by first | exact HB1.out | exact balloc HB1.out _ | exact HB1.out.setCell (by simp) _⟩
      all_goals first
        | rfl
        | (rename_i hx; rw [decide_eq_true hx]; rfl)
        | (rename_i hx; rw [decide_eq_false hx]; rfl)
        | (simp_all; done)
  · rw [verify_no (fun e => hpub (HA.out.2 e))]
    have hu : (t.use != 3) = true := by simpa using hpub
    go_enter Try.func93, Try.ntmps93
    go_wp2
    go_ret
    exact ⟨rfl, balloc (Below.refl _ w) _⟩
end Go.Proofs.Yteedjdflojfhmaa
