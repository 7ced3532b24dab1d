/-
  The oracle's methods, each by what the oracle by lists answers: Sign, Verify.
-/
import Derived.Test.YteedjdflojfhmaaNew
namespace Go.Proofs.Yteedjdflojfhmaa
set_option linter.unusedVariables false
set_option synthInstance.maxSize 20000
open Classical
open Go.RowKit Go.Maps

theorem at_secret (S : St) (g : Int) : ((S.at g).map thingOf).getD noThing = ⟨2, 0, 0, 0, [], []⟩ ↔ S.at g = some .secret := by
  cases S.at g with
  | none => simp [noThing]
  | some x => cases x using What.each <;> simp [thingOf]
theorem at_key (S : St) (g : Int) : ((S.at g).map thingOf).getD noThing = ⟨1, 0, 0, 0, [], []⟩ ↔ S.at g = some .key := by
  cases S.at g with
  | none => simp [noThing]
  | some x => cases x using What.each <;> simp [thingOf]

theorem IsO.has {w : World} {b : Nat} {ft : List Nat} {T : Tab} {dv m1 m2 m3 : Value} (h : IsO w b ft T dv m1 m2 m3) (hne : T.us ≠ []) : ∃ b1 b2 b3, m1 = .map (some b1) ∧ m2 = .map (some b2) ∧ m3 = .map (some b3) := by
  rcases h.maps with ⟨_, _, _, hus, _⟩ | ⟨b1, b2, b3, n2, n3, e1, e2, e3, _⟩
  · exact absurd hus hne
  · exact ⟨b1, b2, b3, e1, e2, e3⟩
theorem us_ne {S : St} {g : Int} {x : What} (h : S.at g = some x) : S.us ≠ [] := fun e => by
  have := at_some h
  have : g ∈ S.us := List.mem_map.2 ⟨_, this, rfl⟩
  rw [e] at this
  cases this

set_option maxHeartbeats 2000000 in
set_option maxRecDepth 20000 in
theorem sign_any (w : World) (b : Nat) (ft : List Nat) (S : St) (h : Rep w b ft S) (hN : S.rows.length + 1 < 1000000000) (s : Int) (hs : U64 s) (v : Value) (l : List Int) (hv : Rd w v l) (hl : l.length ≤ 900000) :
    Calls Try.prog 65 #[ptr b, .int .u64 s, v] w fun e w' => e = .returned (.tuple #[.int .u64 (S.sign s l).1.1, .int .i64 (S.sign s l).1.2]) ∧ Left w b ft (S.sign s l).2 w' := by
  have HR : Hid (Rep w b ft S) := h
  obtain ⟨T, dv, m1, m2, m3, hi, st⟩ := h
  have ho := hv.oct
  have c2 := hi.blk.cell 2 _ rfl
  have c4 := hi.blk.cell 4 _ rfl
  have hlk := hi.look hs
  have hO := thing_oct st.good s
  rw [← st.at] at hO
  have HO : Hid (Oct (T.at s).bound ∧ Oct (T.at s).plain) := hO
  have HA : Hid (T.at s = ⟨2, 0, 0, 0, [], []⟩ ↔ S.at s = some .secret) := by rw [st.at]; exact at_secret S s
  have HS : Hid (Stand T S) := st
  have HI : Hid (IsO w b ft T dv m1 m2 m3) := hi
  have HV : Hid (Rd w v l) := hv
  have hmf : ∀ (fn : Fn) (first cap : Array Value) (w : World), (Instr.makeFunc fn first cap).run Try.prog w = .ok (.func fn first cap) w := fun _ _ _ _ => rfl
  clear hi st hv hO
  unfold St.sign
  generalize T.at s = t at hlk HO HA
  by_cases hsec : S.at s = some .secret
  · rw [if_pos hsec]
    obtain ⟨b1, b2, b3, rfl, rfl, rfl⟩ := HI.out.has (by rw [HS.out.us]; exact us_ne hsec)
    have HT : Hid (t = ⟨2, 0, 0, 0, [], []⟩) := HA.out.2 hsec
    clear hsec HA
    go_enter Try.func65, Try.ntmps65
    go_wp2_with (refine wpList_neqT rfl _ _ _ rfl t ⟨2, 0, 0, 0, [], []⟩ rfl rfl HO.out ⟨Oct.nil, Oct.nil⟩ ?_; rw [decide_eq_true HT.out])
    go_region_with (first
      | (go_at_call 85; go_must (refine (bySecret_any s v l _ hs HV.out.drew (by omega)).mono ?_; rintro e w1 ⟨rfl, hb1⟩; have HI1 : Hid (IsO w1 b ft T dv (.map (some b1)) (.map (some b2)) (.map (some b3))) := HI.out.below (undrew hb1); have c4' := HI1.out.blk.cell 4 _ rfl))
      | (go_at_call 84; go_must (refine (handle_sig _ b ft S T dv b1 b2 b3 HI1.out HS.out hN s hs l ho hl).mono ?_; rintro e w2 ⟨rfl, hl2⟩)))
    all_goals go_wp2
    all_goals go_ret2
    all_goals exact ⟨rfl, by first | exact hl2.after (undrew hb1) | exact (hl2.after (undrew hb1)).drew⟩
  · rw [if_neg hsec]
    have ht : ¬ t = ⟨2, 0, 0, 0, [], []⟩ := fun e => hsec (HA.out.1 e)
    clear hsec HA
    go_enter Try.func65, Try.ntmps65
    go_wp2_with (refine wpList_neqT rfl _ _ _ rfl t ⟨2, 0, 0, 0, [], []⟩ rfl rfl HO.out ⟨Oct.nil, Oct.nil⟩ ?_; rw [decide_eq_false ht])
    go_ret2
    exact ⟨rfl, Left.same HR.out (Below.refl _ _)⟩
theorem sign_nil (w : World) (s : Int) (v : Value) : Calls Try.prog 65 #[.pointer none, .int .u64 s, v] w fun e w' => e = .returned (.tuple #[.int .u64 0, .int .i64 23]) ∧ w' = w := by
  go_enter Try.func65, Try.ntmps65
  go_wp2
  go_ret2
  exact ⟨rfl, rfl⟩
end Go.Proofs.Yteedjdflojfhmaa
