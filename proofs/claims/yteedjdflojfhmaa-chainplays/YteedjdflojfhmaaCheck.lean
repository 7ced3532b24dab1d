/-
  Check: what is asked one behind the other, till one says what is wrong.
  Check, Accept's first half, Odds: the walks.
-/
import Derived.Test.YteedjdflojfhmaaCand
import Derived.Test.YteedjdflojfhmaaRefO
import Derived.Shelf.Abstract
import Derived.Laws.EntriesVeiled
namespace Go.Proofs.Yteedjdflojfhmaa
section
set_option linter.unusedVariables false
set_option linter.unusedSimpArgs false
set_option synthInstance.maxSize 20000
set_option maxHeartbeats 2000000
set_option maxRecDepth 20000
open Go.RowKit Go.Maps

def fnV (q : Nat × Value) : Value := .func (.func q.1) #[q.2] #[]

theorem firstK_at : ∀ (ks : List Int) (i : Nat) (k : Int), ks[i]? = some k → (∀ k' ∈ ks.take i, k' = 0) → k ≠ 0 → firstK ks = k
  | [], i, k, h, _, _ => by simp at h
  | x :: ks, 0, k, h, _, hk => by
    simp at h
    subst h
    exact if_neg hk
  | x :: ks, i + 1, k, h, h0, hk => by
    have hx : x = 0 := h0 x (by simp)
    unfold firstK
    rw [if_pos hx]
    exact firstK_at ks i k (by simpa using h) (fun k' hk' => h0 k' (by rw [List.take_succ_cons]; exact List.mem_cons_of_mem _ hk')) hk

theorem firstWrong_any (w : World) (g : Nat) (fs : List (Nat × Value)) (ks : List Int) (T : TypeId) (hblk : Blk w g T (fs.map fnV)) (hlen : ks.length = fs.length) (hn : fs.length ≤ 100)
    (eg : ∀ q ∈ fs, ∀ args w, (callFunc q.1 args).run Try.prog w = .ok (.enter q.1 args) w)
    (h : ∀ i q k, fs[i]? = some q → ks[i]? = some k → (∀ k' ∈ ks.take i, k' = 0) → ∀ w', Below w.heap.size w w' → Calls Try.prog q.1 #[q.2] w' fun r w'' => r = .returned (.int .i64 k) ∧ Below w'.heap.size w' w'') :
    Calls Try.prog 44 #[.slice (some ⟨g, 0, none⟩) fs.length fs.length] w fun r w' => r = .returned (.int .i64 (firstK ks)) ∧ Below w.heap.size w w' := by
  have HB : Hid (Blk w g T (fs.map fnV)) := hblk
  have HE : Hid (∀ q ∈ fs, ∀ args w, (callFunc q.1 args).run Try.prog w = .ok (.enter q.1 args) w) := eg
  have HH : Hid (∀ i q k, fs[i]? = some q → ks[i]? = some k → (∀ k' ∈ ks.take i, k' = 0) → ∀ w', Below w.heap.size w w' → Calls Try.prog q.1 #[q.2] w' fun r w'' => r = .returned (.int .i64 k) ∧ Below w'.heap.size w' w'') := h
  have HLen : Hid (ks.length = fs.length) := hlen
  clear h eg hblk hlen
  go_enter Try.func44, Try.ntmps44
  go_wp2
  go_loopw [8] (fun i wr => ∃ k : Nat, i = .int .i64 k ∧ k ≤ fs.length ∧ Hid (Below w.heap.size w wr) ∧ Hid (∀ k' ∈ ks.take k, k' = 0)) (fun i _ => fs.length - (intOf i).toNat)
  case atStart => exact ⟨0, rfl, by omega, (show Below _ _ _ from Below.refl _ _), fun k' hk' => by simp at hk'⟩
  case round =>
    obtain ⟨k, rfl, hk, HW, HZ⟩ := hrel
    by_cases hk8 : k < fs.length
    · obtain ⟨q, hq⟩ : ∃ q, fs[k]? = some q := ⟨_, List.getElem?_eq_getElem hk8⟩
      obtain ⟨z, hz⟩ : ∃ z, ks[k]? = some z := ⟨_, List.getElem?_eq_getElem (by rw [HLen.out]; exact hk8)⟩
      have HC : Hid (∀ w', Below w.heap.size w w' → Calls Try.prog q.1 #[q.2] w' fun r w'' => r = .returned (.int .i64 z) ∧ Below w'.heap.size w' w'') := HH.out k q z hq hz HZ.out
      have eg := HE.out q (List.mem_of_getElem? hq)
      have c0 := (HB.out.below HW.out).cell k (fnV q) (by rw [List.getElem?_map, hq]; rfl)
      have HZ1 : Hid (∀ x, x ∈ ks.take (k + 1) → x = 0 ∨ x = z) := fun x hx => by
        rw [List.take_add_one, hz] at hx
        rcases List.mem_append.1 hx with r | r
        · exact .inl (HZ.out x r)
        · exact .inr (by simpa using r)
      have HF : Hid (z ≠ 0 → firstK ks = z) := firstK_at ks k z hz HZ.out
      obtain ⟨fn, c⟩ := q
      unfold fnV at c0
      dsimp only at *
      clear hq hz HE HH
      by_cases hz0 : z = 0
      · subst hz0
        go_wp2_with (go_at_fn fn; refine (HC.out _ HW.out).mono ?_; rintro r w1 ⟨rfl, hb1⟩)
        go_roundw
        case rel => exact ⟨k + 1, by go_num, by omega, (show Below _ _ _ from bnext HW.out hb1), fun x hx => by rcases HZ1.out x hx with r | r <;> exact r⟩
        case measure => simp [intOf]; omega
      · have hz1 : (z != 0) = true := by simpa using hz0
        have hz2 : Hid (firstK ks = z) := HF.out hz0
        clear hz0
        go_wp2_with (go_at_fn fn; refine (HC.out _ HW.out).mono ?_; rintro r w1 ⟨rfl, hb1⟩)
        go_ret
        exact ⟨by rw [hz2.out]; rfl, bnext HW.out hb1⟩
    · obtain rfl : k = fs.length := by omega
      have hf : Hid (firstK ks = 0) := (firstK_zero ks).2 (fun x hx => HZ.out x (by rw [List.take_of_length_le (by rw [HLen.out]; exact Nat.le_refl _)]; exact hx))
      go_wp2
      go_ret
      exact ⟨by rw [hf.out]; rfl, HW.out⟩

/-- What a candidate's questions answer, in every world that has only more. -/
structure Asks (w : World) (o : Nat → Nat) (j la b : Nat) (S : St) (W p : Int) (L : Lg) (e : Ent) (x : Value) : Prop where
  log : LogIs w o j la b W p L
  orc : OrcAt w o b S
  ok : EOk e
  rd : Rd w x e.b
  len : e.b.length ≤ 90000

theorem metK_out {es : List Ent} {e : Ent} (h : (es.length : Int) ≤ e.i) : metK es e = 0 := by
  unfold metK
  rw [List.getElem?_eq_none (by omega)]

theorem asks_later {w : World} {o : Nat → Nat} {j la b : Nat} {W p : Int} {L : Lg} {e : Ent} {x : Value} (hL : LogIs w o j la b W p L) (hx : Rd w x e.b) :
    Calls Try.prog 43 #[cv la e x] w fun r w' => r = .returned (.int .i64 (unl (laterB L.es e) 2)) ∧ Below w.heap.size w w' := by
  obtain ⟨v, ps, h⟩ := hL
  have hrow := h.rowE
  obtain ⟨a, cap, rfl⟩ := hrow.len
  have hcap := hrow.cap
  rcases Nat.eq_zero_or_pos ps.length with h0 | h0
  · have e0 : laterB L.es e = true := by
      have : L.es = [] := List.eq_nil_of_length_eq_zero (by rw [h.len, h0])
      rw [this]
      rfl
    rw [e0]
    have hb := h.blk
    rw [h0] at hb
    exact clater_first w la b W p a cap L.sum e x hx hb
  · obtain ⟨n, hn⟩ : ∃ n, ps.length = n + 1 := ⟨ps.length - 1, by omega⟩
    obtain ⟨q, hq⟩ : ∃ q, ps[n]? = some q := ⟨_, List.getElem?_eq_getElem (by omega)⟩
    obtain ⟨g, off, rfl, hc⟩ := hrow.at hq
    have e1 : laterB L.es e = decide (ltP (q.1.t, q.1.u) (e.t, e.u)) := by
      unfold laterB
      rw [List.getLast?_eq_getElem?, h.len, hn, h.at]
      simp [hq]
    rw [e1]
    have hb := h.blk
    rw [hn] at hb hcap
    exact clater_more w la b W p g off n cap L.sum e x hx (by have := h.few; omega) ⟨hcap.2.1, hcap.2.2⟩ q.1 q.2 hc hb

theorem asks_unmet {w : World} {o : Nat → Nat} {j la b : Nat} {W p : Int} {L : Lg} {e : Ent} {x : Value} (hL : LogIs w o j la b W p L) (hx : Rd w x e.b) (hi : 0 ≤ e.i) :
    Calls Try.prog 52 #[cv la e x] w fun r w' => r = .returned (.int .i64 (metK L.es e)) ∧ Below w.heap.size w w' := by
  obtain ⟨v, ps, h⟩ := hL
  have hrow := h.rowE
  obtain ⟨a, cap, rfl⟩ := hrow.len
  have hcap := hrow.cap
  by_cases hin : e.i.toNat < ps.length
  · obtain ⟨q, hq⟩ : ∃ q, ps[e.i.toNat]? = some q := ⟨_, List.getElem?_eq_getElem hin⟩
    obtain ⟨g, off, rfl, hc⟩ := hrow.at hq
    have e1 : metK L.es e = if sameB e q.1 then 8 else 9 := by
      unfold metK
      rw [h.at, hq]
      rfl
    rw [e1]
    exact cunmet_in w la b W p g off ps.length cap L.sum e x hx h.few ⟨hcap.2.1, hcap.2.2⟩ e.i.toNat (by omega) hin q.1 q.2 (h.ents q (List.mem_of_getElem? hq)).2.1 hc h.blk
  · rw [metK_out (by rw [h.len]; omega)]
    exact cunmet_out w la b W p a ps.length cap L.sum e x hx h.few (by omega) h.blk

theorem row_one {w : World} {B : Nat} {e : TypeId} {k : Nat} {v : Value} {n : Nat} {xs : List Value} (h : w.ownsRow B e k v n xs) : v.oneCell' = true := by
  obtain ⟨a, c, rfl, _⟩ := slice_of_own h
  rfl

theorem asks_any {w0 : World} {o : Nat → Nat} {j la b : Nat} {S : St} {W p : Int} {L : Lg} {e : Ent} {x : Value} (h : Asks w0 o j la b S W p L e x) (hj : j ≠ 0) (w : World) (hw : Below w0.heap.size w0 w) (i : Nat) (q : Nat × Value) (k : Int)
    (hq : [(42, cv la e x), (50, cv la e x), (51, cv la e x), (52, cv la e x), (53, cv la e x), (54, cv la e x), (43, cv la e x)][i]? = some q) (hk : (askK S W p L e)[i]? = some k) (h0 : ∀ k' ∈ (askK S W p L e).take i, k' = 0) :
    Calls Try.prog q.1 #[q.2] w fun r w' => r = .returned (.int .i64 k) ∧ Below w.heap.size w w' := by
  have m : Mv [] w0 o w (newTo o w0 0) := Mv.of_below 0 hw
  have hL := h.log.mv m (by simp) (by simp)
  obtain ⟨ft, hR, _⟩ := h.orc.mv m (by simp)
  have hx := h.rd.below hw
  obtain ⟨v, ps, hA⟩ := hL
  match i, hq, hk with
  | 0, hq, hk =>
    simp [askK] at hq hk
    subst hq hk
    exact cright_any w la e x hx
  | 1, hq, hk =>
    simp [askK] at hq hk
    subst hq hk
    exact cown_any w la b W p v L.sum e x hx (row_one hA.row) hA.blk
  | 2, hq, hk =>
    simp [askK] at hq hk
    subst hq hk
    exact csigned_any w la b ft S hR W p v L.sum e x h.ok hA.hp hx h.len hA.blk
  | 3, hq, hk =>
    simp [askK] at hq hk
    subst hq hk
    have hr : rightB e = true := (unl_zero (by omega)).1 (h0 (unl (rightB e) 1) (by simp [askK]))
    exact asks_unmet ⟨v, ps, hA⟩ hx ((rightB_iff e).1 hr).2.1.1
  | 4, hq, hk =>
    simp [askK] at hq hk
    subst hq hk
    have hl := hA.len
    obtain ⟨a, cap, rfl⟩ := hA.rowE.len
    rw [hl]
    exact cnext_any w la b W p a ps.length cap L.sum e x hx hA.few hA.blk
  | 5, hq, hk =>
    simp [askK] at hq hk
    subst hq hk
    exact clinked_any w la b W p v L.sum e x hx (row_one hA.row) hA.blk
  | 6, hq, hk =>
    simp [askK] at hq hk
    subst hq hk
    exact asks_later ⟨v, ps, hA⟩ hx
  | i + 7, hq, hk => simp at hq
end

section
set_option linter.unusedVariables false
set_option linter.unusedSimpArgs false
set_option synthInstance.maxSize 20000
set_option maxHeartbeats 2000000
set_option maxRecDepth 20000
open Go.RowKit Go.Maps

theorem fn42 : ∀ args w, (callFunc 42 args).run Try.prog w = .ok (.enter 42 args) w := fun _ _ => rfl
theorem enters7 (la : Nat) (e : Ent) (x : Value) : ∀ q ∈ [(42, cv la e x), (50, cv la e x), (51, cv la e x), (52, cv la e x), (53, cv la e x), (54, cv la e x), (43, cv la e x)], ∀ args w, (callFunc q.1 args).run Try.prog w = .ok (.enter q.1 args) w := by
  intro q hq
  simp at hq
  rcases hq with rfl | rfl | rfl | rfl | rfl | rfl | rfl
  all_goals exact fun _ _ => rfl

theorem check_any {w : World} {o : Nat → Nat} {j la b : Nat} {S : St} {W p : Int} {L : Lg} {e : Ent} {x : Value} (h : Asks w o j la b S W p L e x) (hj : j ≠ 0) :
    Calls Try.prog 23 #[ptr la, ev e x] w fun r w' => r = .returned (.int .i64 (checkM S W p L e)) ∧ Below w.heap.size w w' := by
  have F := fun w0 (hw0 : Below w.heap.size w w0) g T (hb : Blk w0 g T ([(42, cv la e x), (50, cv la e x), (51, cv la e x), (52, cv la e x), (53, cv la e x), (54, cv la e x), (43, cv la e x)].map fnV)) => firstWrong_any w0 g [(42, cv la e x), (50, cv la e x), (51, cv la e x), (52, cv la e x), (53, cv la e x), (54, cv la e x), (43, cv la e x)] (askK S W p L e) T hb rfl (by simp) (enters7 la e x) (fun i q k hq hk h0 w' hw' => asks_any h hj w' (bnext hw0 hw') i q k hq hk h0)
  have hK : firstK (askK S W p L e) = checkM S W p L e := rfl
  rw [hK] at F
  obtain ⟨a, cap, hxx⟩ := h.rd.len
  subst hxx
  clear h hK
  generalize checkM S W p L e = K at *
  obtain ⟨ew, ei, ep, et, eu, en, eb, eg⟩ := e
  unfold ev
  unfold cv at F
  simp only [List.map_cons, List.map_nil, fnV] at F
  have HF : Hid (∀ w0, Below w.heap.size w w0 → ∀ g T, Blk w0 g T [.func (.func 42) #[.agg #[ptr la, .int .i64 ew, .int .i64 ei, .int .u64 ep, .int .i64 et, .int .i64 eu, .int .i64 en, .slice a eb.length cap, .int .u64 eg]] #[], .func (.func 50) #[.agg #[ptr la, .int .i64 ew, .int .i64 ei, .int .u64 ep, .int .i64 et, .int .i64 eu, .int .i64 en, .slice a eb.length cap, .int .u64 eg]] #[], .func (.func 51) #[.agg #[ptr la, .int .i64 ew, .int .i64 ei, .int .u64 ep, .int .i64 et, .int .i64 eu, .int .i64 en, .slice a eb.length cap, .int .u64 eg]] #[], .func (.func 52) #[.agg #[ptr la, .int .i64 ew, .int .i64 ei, .int .u64 ep, .int .i64 et, .int .i64 eu, .int .i64 en, .slice a eb.length cap, .int .u64 eg]] #[], .func (.func 53) #[.agg #[ptr la, .int .i64 ew, .int .i64 ei, .int .u64 ep, .int .i64 et, .int .i64 eu, .int .i64 en, .slice a eb.length cap, .int .u64 eg]] #[], .func (.func 54) #[.agg #[ptr la, .int .i64 ew, .int .i64 ei, .int .u64 ep, .int .i64 et, .int .i64 eu, .int .i64 en, .slice a eb.length cap, .int .u64 eg]] #[], .func (.func 43) #[.agg #[ptr la, .int .i64 ew, .int .i64 ei, .int .u64 ep, .int .i64 et, .int .i64 eu, .int .i64 en, .slice a eb.length cap, .int .u64 eg]] #[]] → Calls Try.prog 44 #[.slice (some ⟨g, 0, none⟩) 7 7] w0 fun r w' => r = .returned (.int .i64 K) ∧ Below w0.heap.size w0 w') := F
  clear F
  dsimp only at *
  go_enter Try.func23, Try.ntmps23
  go_wp2_with (go_at_call 44; go_must (refine (HF.out _ (balloc (balloc (balloc (Below.refl _ _) _) _) _) _ _ (by first | exact blk_new _ _ _ | (have := blk_new ((w.alloc (.cells #[.int .i64 ew, .int .i64 ei, .int .u64 ep, .int .i64 et, .int .i64 eu, .int .i64 en, .slice a eb.length cap, .int .u64 eg] 47)).alloc (.cells #[ptr la, .int .i64 ew, .int .i64 ei, .int .u64 ep, .int .i64 et, .int .i64 eu, .int .i64 en, .slice a eb.length cap, .int .u64 eg] 96)) [.func (.func 42) #[.agg #[ptr la, .int .i64 ew, .int .i64 ei, .int .u64 ep, .int .i64 et, .int .i64 eu, .int .i64 en, .slice a eb.length cap, .int .u64 eg]] #[], .func (.func 50) #[.agg #[ptr la, .int .i64 ew, .int .i64 ei, .int .u64 ep, .int .i64 et, .int .i64 eu, .int .i64 en, .slice a eb.length cap, .int .u64 eg]] #[], .func (.func 51) #[.agg #[ptr la, .int .i64 ew, .int .i64 ei, .int .u64 ep, .int .i64 et, .int .i64 eu, .int .i64 en, .slice a eb.length cap, .int .u64 eg]] #[], .func (.func 52) #[.agg #[ptr la, .int .i64 ew, .int .i64 ei, .int .u64 ep, .int .i64 et, .int .i64 eu, .int .i64 en, .slice a eb.length cap, .int .u64 eg]] #[], .func (.func 53) #[.agg #[ptr la, .int .i64 ew, .int .i64 ei, .int .u64 ep, .int .i64 et, .int .i64 eu, .int .i64 en, .slice a eb.length cap, .int .u64 eg]] #[], .func (.func 54) #[.agg #[ptr la, .int .i64 ew, .int .i64 ei, .int .u64 ep, .int .i64 et, .int .i64 eu, .int .i64 en, .slice a eb.length cap, .int .u64 eg]] #[], .func (.func 43) #[.agg #[ptr la, .int .i64 ew, .int .i64 ei, .int .u64 ep, .int .i64 et, .int .i64 eu, .int .i64 en, .slice a eb.length cap, .int .u64 eg]] #[]] 105; simpa using this))).mono ?_; rintro r w2 ⟨rfl, hb2⟩))
  go_ret
  exact ⟨rfl, bnext (balloc (balloc (balloc (Below.refl _ _) _) _) _) hb2⟩

theorem check_nil (w : World) (v : Value) (e : Ent) (x : Value) (hx : Rd w x e.b) : Calls Try.prog 23 #[.pointer none, ev e x] w fun r w' => r = .returned (.int .i64 23) ∧ Below w.heap.size w w' := by
  obtain ⟨a, cap, hxx⟩ := hx.len
  subst hxx
  obtain ⟨ew, ei, ep, et, eu, en, eb, eg⟩ := e
  unfold ev
  dsimp only at *
  go_enter Try.func23, Try.ntmps23
  go_wp2
  go_ret
  exact ⟨rfl, balloc (Below.refl _ _) _⟩
end
end Go.Proofs.Yteedjdflojfhmaa
