/-
  The oracle's Wrap.
-/
import Derived.Test.YtcacioogklgahaaBox
namespace Go.Proofs.Ytcacioogklgahaa
set_option linter.unusedVariables false
set_option synthInstance.maxSize 20000
open Classical
open Go.RowKit Go.Maps

theorem at_useP (S : St) (g : Int) : (((S.at g).map thingOf).getD noThing).use = 3 ↔ ∃ s, S.at g = some (.pub s) := by
  cases S.at g with
  | none => simp [noThing]
  | some x => cases x using What.each <;> simp [thingOf]
theorem wrap_no {S : St} {p : Int} (h : ¬ ∃ s, S.at p = some (.pub s)) (k : Int) : S.wrap p k = (([], 20), S) := by
  unfold St.wrap
  split
  · rename_i s e; exact absurd ⟨s, e⟩ h
  · rfl
theorem wrap_pub {S : St} {p s : Int} (h : S.at p = some (.pub s)) (k : Int) : S.wrap p k = if S.at k = some .key then ((boxOf S.fresh 8, 0), S.put (.wrap s k p)) else (([], 11), S) := by
  unfold St.wrap
  rw [h]

set_option maxHeartbeats 2000000 in
set_option maxRecDepth 20000 in
theorem wrap_any (w : World) (b : Nat) (ft : List Nat) (S : St) (h : Rep w b ft S) (hN : S.rows.length + 1 < 1000000000) (p : Int) (hp : U64 p) (k : Int) (hk : U64 k) :
    Calls Try.prog 24 #[ptr b, .int .u64 p, .int .u64 k] w fun e w' => ∃ v', e = .returned (.tuple #[v', .int .i64 (S.wrap p k).1.2]) ∧ LeftB w b ft (S.wrap p k).2 w' v' (S.wrap p k).1.1 := by
  have HR : Hid (Rep w b ft S) := h
  obtain ⟨T, dv, m1, m2, m3, hi, st⟩ := h
  have c2 := hi.blk.cell 2 _ rfl
  have hlk := hi.look hp
  have HA : Hid ((T.at p).use = 3 ↔ ∃ s, S.at p = some (.pub s)) := by rw [st.at]; exact at_useP S p
  have HB : Hid (∀ s, S.at p = some (.pub s) → (T.at p).secret = s ∧ U64 s) := fun s e => by rw [st.at, e]; exact ⟨rfl, (at_ok st.good e).2.2⟩
  have hO := thing_oct st.good k
  rw [← st.at] at hO
  have HK : Hid (∀ w', Below w.heap.size w w' → Calls Try.prog 43 #[ptr b, .int .u64 k] w' fun e w'' => e = .returned (.bool (decide (S.at k = some .key))) ∧ w'' = w') := fun w' hb => by
    have := isKey_any w' b ft T dv m1 m2 m3 (hi.below hb) k hk hO
    have e : decide (T.at k = ⟨1, 0, 0, 0, [], []⟩) = decide (S.at k = some .key) := decide_eq_decide.2 (by rw [st.at]; exact at_key S k)
    rw [e] at this
    exact this
  have hlt : b < w.heap.size := hi.blk.lt
  have hroom := hi.room
  have hfU : U64 S.fresh := (fresh_ok st.good (by omega)).2.2.1
  clear hi st hO
  unfold thingVal at hlk
  generalize T.at p = t at hlk HA HB
  by_cases hpub : t.use = 3
  · obtain ⟨s, hs⟩ := HA.out.1 hpub
    obtain ⟨hsec, hU⟩ := HB.out s hs
    have hu : (t.use != 3) = false := by simpa using hpub
    rw [wrap_pub hs]
    subst hsec
    clear hpub HA HB hs
    by_cases hkey : S.at k = some .key
    · rw [if_pos hkey]
      have hok : decide (S.at k = some .key) = true := decide_eq_true hkey
      rw [hok] at HK
      clear hkey hok
      go_enter Try.func24, Try.ntmps24
      go_wp2_with (go_at_call 43; go_must (refine (HK.out _ (balloc (Below.refl _ w) _)).mono ?_; rintro e w1 ⟨rfl, rfl⟩))
      go_region_with (first
        | (go_at_call 42; go_must (refine (put_row _ b ft S (HR.out.below (balloc (balloc (Below.refl _ w) _) _).drew) hN (.wrap t.secret k p) ⟨hU, hk, hp⟩ (by simp) (by simp) _ rfl).mono ?_; rintro e w2 ⟨rfl, hl2⟩; have HL2 : Hid (Left w b ft (S.put (.wrap t.secret k p)) w2) := hl2.after (balloc (balloc (Below.refl _ w) _) _).drew; have X := (blk2_1 w [.int .i64 t.use, .int .u64 t.secret, .int .u64 t.key, .int .i64 t.zeros, .string (strOfNums t.bound), .string (strOfNums t.plain)] [.int .i64 5, .int .u64 t.secret, .int .u64 k, .int .i64 8, .string ⟨#[]⟩, .string ⟨#[]⟩] 72 72).block (hl2.2.block (w.heap.size + 1) (by simp) (fun e => by have := hroom _ e; omega)); have j3 := X.cell 3 _ rfl; clear X hl2))
        | (go_at_call 45; go_must (refine (form_any S.fresh 8 _ hfU (by omega)).mono ?_; rintro e w3 ⟨v3, rfl, hown, hb3⟩)))
      all_goals go_wp2
      all_goals go_ret2
      all_goals exact ⟨_, rfl, LeftB.mk' HL2.out hown hb3⟩
    · rw [if_neg hkey]
      have hok : decide (S.at k = some .key) = false := decide_eq_false hkey
      rw [hok] at HK
      clear hkey hok
      go_enter Try.func24, Try.ntmps24
      go_wp2_with (go_at_call 43; go_must (refine (HK.out _ (balloc (Below.refl _ w) _)).mono ?_; rintro e w1 ⟨rfl, rfl⟩))
      go_ret2
      exact ⟨_, rfl, LeftB.nil HR.out (balloc (Below.refl _ w) _)⟩
  · rw [wrap_no (fun e => hpub (HA.out.2 e))]
    have hu : (t.use != 3) = true := by simpa using hpub
    go_enter Try.func24, Try.ntmps24
    go_wp2
    go_ret2
    exact ⟨_, rfl, LeftB.nil HR.out (balloc (Below.refl _ w) _)⟩
end Go.Proofs.Ytcacioogklgahaa
