/-
  What is asked of a candidate: is it right, the log's own, signed, unmet, the next one, linked, later?
-/
import Derived.Test.YteedjdflojfhmaaLogM
import Derived.Test.YteedjdflojfhmaaCmp
import Derived.Test.YteedjdflojfhmaaRightE
import Derived.Test.YteedjdflojfhmaaSumE
import Derived.BigQuiet
namespace Go.Proofs.Yteedjdflojfhmaa
set_option linter.unusedVariables false
set_option linter.unusedSimpArgs false
set_option synthInstance.maxSize 20000
set_option maxHeartbeats 2000000
set_option maxRecDepth 20000
open Go.RowKit Go.Maps

section
variable {P : Program} {C : World → Prop} {Q : Exit → Act → World → Prop} {a : Act} {w : World} {l : List Oper} {i : Nat} {o : Oper} {r : List (Bool × Nat)}
/-- A step whose guard is shut. -/
theorem ord_shut (hi : l[i]? = some o) (hw : Region.wanted o (yielded l.toArray a.tmps) = false) (h : wpQuiet P l.toArray C (fun a' => wpOrd P l.toArray C Q (pickOrd l r) a' w) [o] a) : wpOrd P l.toArray C Q (pickOrd l ((false, i) :: r)) a w := by
  rw [pickOrd_cons hi]
  show stepOp P l.toArray C false o (wpOrd P l.toArray C Q (pickOrd l r)) a w
  unfold stepOp
  rw [if_neg (by simp)]
  unfold wpQuiet at h
  rw [if_neg (by rw [hw]; simp)] at h
  exact ⟨undef, .inr ⟨hw, rfl⟩, h⟩
end

theorem unless_any (c : Bool) (k : Int) (w : World) : Calls Try.prog 61 #[.bool c, .int .i64 k] w fun e w' => e = .returned (.int .i64 (unl c k)) ∧ w' = w := by
  cases c
  all_goals
    go_enter Try.func61, Try.ntmps61
    go_wp2
    go_ret
    exact ⟨rfl, rfl⟩

theorem cright_any (w : World) (la : Nat) (e : Ent) (x : Value) (hx : Rd w x e.b) :
    Calls Try.prog 42 #[cv la e x] w fun r w' => r = .returned (.int .i64 (unl (rightB e) 1)) ∧ Below w.heap.size w w' := by
  have HV : Hid (Rd w x e.b) := hx
  have R := fun w' (h : Rd w' x e.b) => rightE_any e x w' h
  generalize rightB e = q at *
  obtain ⟨a, cap, rfl⟩ := hx.len
  obtain ⟨ew, ei, ep, et, eu, en, eb, eg⟩ := e
  unfold ev at R
  unfold cv
  dsimp only at *
  have HR : Hid (∀ w', Rd w' (.slice a eb.length cap) eb → Calls Try.prog 62 #[.agg #[.int .i64 ew, .int .i64 ei, .int .u64 ep, .int .i64 et, .int .i64 eu, .int .i64 en, .slice a eb.length cap, .int .u64 eg]] w' fun r w'' => r = .returned (.bool q) ∧ Below w'.heap.size w' w'') := R
  clear R hx
  go_enter Try.func42, Try.ntmps42
  go_wp2_with (first
    | (go_at_call 62; go_must (refine (HR.out _ (HV.out.below (balloc (Below.refl _ _) _))).mono ?_; rintro r w2 ⟨rfl, hb2⟩))
    | (go_at_call 61; go_must (refine (unless_any _ _ _).mono ?_; rintro r w3 ⟨rfl, hw3⟩; replace hw3 := hw3.symm; subst hw3)))
  go_ret
  exact ⟨rfl, bnext (balloc (Below.refl _ _) _) hb2⟩

theorem cown_any (w : World) (la b : Nat) (W p : Int) (v : Value) (sum : Int) (e : Ent) (x : Value) (hx : Rd w x e.b) (hv : v.oneCell' = true) (hl : Blk w la 91 [ptr b, .int .i64 W, .int .u64 p, v, .int .u64 sum]) :
    Calls Try.prog 50 #[cv la e x] w fun r w' => r = .returned (.int .i64 (unl (e.w == W) 20)) ∧ Below w.heap.size w w' := by
  obtain ⟨a, cap, rfl⟩ := hx.len
  obtain ⟨ew, ei, ep, et, eu, en, eb, eg⟩ := e
  unfold cv
  dsimp only at *
  obtain ⟨w1, hw1⟩ : ∃ w1, w1 = w.alloc (.cells #[ptr la, .int .i64 ew, .int .i64 ei, .int .u64 ep, .int .i64 et, .int .i64 eu, .int .i64 en, .slice a eb.length cap, .int .u64 eg] 96) := ⟨_, rfl⟩
  have HB1 : Hid (Below w.heap.size w w1) := by show Below _ _ _; rw [hw1]; exact balloc (Below.refl _ _) _
  have HX1 : Hid (Blk w1 w.heap.size 96 [ptr la, .int .i64 ew, .int .i64 ei, .int .u64 ep, .int .i64 et, .int .i64 eu, .int .i64 en, .slice a eb.length cap, .int .u64 eg]) := by show Blk _ _ _ _; rw [hw1]; exact blk_new w [ptr la, .int .i64 ew, .int .i64 ei, .int .u64 ep, .int .i64 et, .int .i64 eu, .int .i64 en, .slice a eb.length cap, .int .u64 eg] 96
  have HL1 : Hid (Blk w1 la 91 [ptr b, .int .i64 W, .int .u64 p, v, .int .u64 sum]) := (show Blk _ _ _ _ from hl.below HB1.out)
  clear hx hl
  go_enter Try.func50, Try.ntmps50
  go_upto_region 1 with fail
  rw [← hw1]
  obtain ⟨n, hn⟩ : ∃ n, n = w.heap.size := ⟨_, rfl⟩
  rw [← hn] at HX1 ⊢
  clear hw1 hn
  have k0 := fun z : WIn (fun w' => Below w1.heap.size w1 w') => (HX1.out.below z.ok).cell 0 _ rfl
  have k1 := fun z : WIn (fun w' => Below w1.heap.size w1 w') => (HX1.out.below z.ok).cell 1 _ rfl
  have k2 := fun z : WIn (fun w' => Below w1.heap.size w1 w') => (HX1.out.below z.ok).cell 2 _ rfl
  have k3 := fun z : WIn (fun w' => Below w1.heap.size w1 w') => (HX1.out.below z.ok).cell 3 _ rfl
  have k4 := fun z : WIn (fun w' => Below w1.heap.size w1 w') => (HX1.out.below z.ok).cell 4 _ rfl
  have k5 := fun z : WIn (fun w' => Below w1.heap.size w1 w') => (HX1.out.below z.ok).cell 5 _ rfl
  have k6 := fun z : WIn (fun w' => Below w1.heap.size w1 w') => (HX1.out.below z.ok).cell 6 _ rfl
  have k7 := fun z : WIn (fun w' => Below w1.heap.size w1 w') => (HX1.out.below z.ok).cell 7 _ rfl
  have k8 := fun z : WIn (fun w' => Below w1.heap.size w1 w') => (HX1.out.below z.ok).cell 8 _ rfl
  have l0 := fun z : WIn (fun w' => Below w1.heap.size w1 w') => (HL1.out.below z.ok).cell 0 _ rfl
  have l1 := fun z : WIn (fun w' => Below w1.heap.size w1 w') => (HL1.out.below z.ok).cell 1 _ rfl
  have l2 := fun z : WIn (fun w' => Below w1.heap.size w1 w') => (HL1.out.below z.ok).cell 2 _ rfl
  have l3 := fun z : WIn (fun w' => Below w1.heap.size w1 w') => (HL1.out.below z.ok).cell 3 _ rfl
  have l4 := fun z : WIn (fun w' => Below w1.heap.size w1 w') => (HL1.out.below z.ok).cell 4 _ rfl
  have ne : Nonempty (WIn (fun w' => Below w1.heap.size w1 w')) := ⟨⟨w1, Below.refl _ _⟩⟩
  refine wp_region_ord (C := fun w' => ∃ z : WIn (fun w' => Below w1.heap.size w1 w'), w' = z.w) [(false, 0), (false, 1), (false, 2), (false, 3), (false, 4), (false, 5), (false, 6), (false, 7), (false, 8), (true, 9), (false, 10)] (by kernel_rfl) (by kernel_rfl) ⟨⟨w1.drew, (Below.refl _ _).drew⟩, rfl⟩ ?_
  iterate 9 (refine ord_still rfl rfl ?_; go_big_quiet_step (fail); refine wpQuiet_nil ?_)
  refine ord_mem rfl rfl ?_
  go_simp
  refine (unless_any _ _ _).mono ?_
  rintro r w3 ⟨rfl, hw3⟩
  replace hw3 := hw3.symm
  subst hw3
  refine ⟨⟨⟨_, (Below.refl _ _).drew⟩, rfl⟩, ?_⟩
  iterate 1 (refine ord_still rfl rfl ?_; go_big_quiet_step (fail); refine wpQuiet_nil ?_)
  refine ord_end ?_
  go_wp2
  go_ret
  exact ⟨rfl, HB1.out.drew⟩

theorem clinked_any (w : World) (la b : Nat) (W p : Int) (v : Value) (sum : Int) (e : Ent) (x : Value) (hx : Rd w x e.b) (hv : v.oneCell' = true) (hl : Blk w la 91 [ptr b, .int .i64 W, .int .u64 p, v, .int .u64 sum]) :
    Calls Try.prog 54 #[cv la e x] w fun r w' => r = .returned (.int .i64 (unl (e.p == sum) 5)) ∧ Below w.heap.size w w' := by
  obtain ⟨a, cap, rfl⟩ := hx.len
  obtain ⟨ew, ei, ep, et, eu, en, eb, eg⟩ := e
  unfold cv
  dsimp only at *
  obtain ⟨w1, hw1⟩ : ∃ w1, w1 = w.alloc (.cells #[ptr la, .int .i64 ew, .int .i64 ei, .int .u64 ep, .int .i64 et, .int .i64 eu, .int .i64 en, .slice a eb.length cap, .int .u64 eg] 96) := ⟨_, rfl⟩
  have HB1 : Hid (Below w.heap.size w w1) := by show Below _ _ _; rw [hw1]; exact balloc (Below.refl _ _) _
  have HX1 : Hid (Blk w1 w.heap.size 96 [ptr la, .int .i64 ew, .int .i64 ei, .int .u64 ep, .int .i64 et, .int .i64 eu, .int .i64 en, .slice a eb.length cap, .int .u64 eg]) := by show Blk _ _ _ _; rw [hw1]; exact blk_new w [ptr la, .int .i64 ew, .int .i64 ei, .int .u64 ep, .int .i64 et, .int .i64 eu, .int .i64 en, .slice a eb.length cap, .int .u64 eg] 96
  have HL1 : Hid (Blk w1 la 91 [ptr b, .int .i64 W, .int .u64 p, v, .int .u64 sum]) := (show Blk _ _ _ _ from hl.below HB1.out)
  clear hx hl
  go_enter Try.func54, Try.ntmps54
  go_upto_region 1 with fail
  rw [← hw1]
  obtain ⟨n, hn⟩ : ∃ n, n = w.heap.size := ⟨_, rfl⟩
  rw [← hn] at HX1 ⊢
  clear hw1 hn
  have k0 := fun z : WIn (fun w' => Below w1.heap.size w1 w') => (HX1.out.below z.ok).cell 0 _ rfl
  have k1 := fun z : WIn (fun w' => Below w1.heap.size w1 w') => (HX1.out.below z.ok).cell 1 _ rfl
  have k2 := fun z : WIn (fun w' => Below w1.heap.size w1 w') => (HX1.out.below z.ok).cell 2 _ rfl
  have k3 := fun z : WIn (fun w' => Below w1.heap.size w1 w') => (HX1.out.below z.ok).cell 3 _ rfl
  have k4 := fun z : WIn (fun w' => Below w1.heap.size w1 w') => (HX1.out.below z.ok).cell 4 _ rfl
  have k5 := fun z : WIn (fun w' => Below w1.heap.size w1 w') => (HX1.out.below z.ok).cell 5 _ rfl
  have k6 := fun z : WIn (fun w' => Below w1.heap.size w1 w') => (HX1.out.below z.ok).cell 6 _ rfl
  have k7 := fun z : WIn (fun w' => Below w1.heap.size w1 w') => (HX1.out.below z.ok).cell 7 _ rfl
  have k8 := fun z : WIn (fun w' => Below w1.heap.size w1 w') => (HX1.out.below z.ok).cell 8 _ rfl
  have l0 := fun z : WIn (fun w' => Below w1.heap.size w1 w') => (HL1.out.below z.ok).cell 0 _ rfl
  have l1 := fun z : WIn (fun w' => Below w1.heap.size w1 w') => (HL1.out.below z.ok).cell 1 _ rfl
  have l2 := fun z : WIn (fun w' => Below w1.heap.size w1 w') => (HL1.out.below z.ok).cell 2 _ rfl
  have l3 := fun z : WIn (fun w' => Below w1.heap.size w1 w') => (HL1.out.below z.ok).cell 3 _ rfl
  have l4 := fun z : WIn (fun w' => Below w1.heap.size w1 w') => (HL1.out.below z.ok).cell 4 _ rfl
  have ne : Nonempty (WIn (fun w' => Below w1.heap.size w1 w')) := ⟨⟨w1, Below.refl _ _⟩⟩
  refine wp_region_ord (C := fun w' => ∃ z : WIn (fun w' => Below w1.heap.size w1 w'), w' = z.w) [(false, 0), (false, 1), (false, 2), (false, 3), (false, 4), (false, 5), (false, 6), (false, 7), (false, 8), (true, 9), (false, 10)] (by kernel_rfl) (by kernel_rfl) ⟨⟨w1.drew, (Below.refl _ _).drew⟩, rfl⟩ ?_
  iterate 9 (refine ord_still rfl rfl ?_; go_big_quiet_step (fail); refine wpQuiet_nil ?_)
  refine ord_mem rfl rfl ?_
  go_simp
  refine (unless_any _ _ _).mono ?_
  rintro r w3 ⟨rfl, hw3⟩
  replace hw3 := hw3.symm
  subst hw3
  refine ⟨⟨⟨_, (Below.refl _ _).drew⟩, rfl⟩, ?_⟩
  iterate 1 (refine ord_still rfl rfl ?_; go_big_quiet_step (fail); refine wpQuiet_nil ?_)
  refine ord_end ?_
  go_wp2
  go_ret
  exact ⟨rfl, HB1.out.drew⟩

theorem cnext_any (w : World) (la b : Nat) (W p : Int) (av : Option Addr) (nv cv' : Nat) (sum : Int) (e : Ent) (x : Value) (hx : Rd w x e.b) (hnv : nv ≤ 200) (hl : Blk w la 91 [ptr b, .int .i64 W, .int .u64 p, .slice av nv cv', .int .u64 sum]) :
    Calls Try.prog 53 #[cv la e x] w fun r w' => r = .returned (.int .i64 (unl (e.i == nv) 7)) ∧ Below w.heap.size w w' := by
  obtain ⟨a, cap, rfl⟩ := hx.len
  obtain ⟨ew, ei, ep, et, eu, en, eb, eg⟩ := e
  unfold cv
  dsimp only at *
  obtain ⟨w1, hw1⟩ : ∃ w1, w1 = w.alloc (.cells #[ptr la, .int .i64 ew, .int .i64 ei, .int .u64 ep, .int .i64 et, .int .i64 eu, .int .i64 en, .slice a eb.length cap, .int .u64 eg] 96) := ⟨_, rfl⟩
  have HB1 : Hid (Below w.heap.size w w1) := by show Below _ _ _; rw [hw1]; exact balloc (Below.refl _ _) _
  have HX1 : Hid (Blk w1 w.heap.size 96 [ptr la, .int .i64 ew, .int .i64 ei, .int .u64 ep, .int .i64 et, .int .i64 eu, .int .i64 en, .slice a eb.length cap, .int .u64 eg]) := by show Blk _ _ _ _; rw [hw1]; exact blk_new w [ptr la, .int .i64 ew, .int .i64 ei, .int .u64 ep, .int .i64 et, .int .i64 eu, .int .i64 en, .slice a eb.length cap, .int .u64 eg] 96
  have HL1 : Hid (Blk w1 la 91 [ptr b, .int .i64 W, .int .u64 p, .slice av nv cv', .int .u64 sum]) := (show Blk _ _ _ _ from hl.below HB1.out)
  clear hx hl
  go_enter Try.func53, Try.ntmps53
  go_upto_region 1 with fail
  rw [← hw1]
  obtain ⟨n, hn⟩ : ∃ n, n = w.heap.size := ⟨_, rfl⟩
  rw [← hn] at HX1 ⊢
  clear hw1 hn
  have k0 := fun z : WIn (fun w' => Below w1.heap.size w1 w') => (HX1.out.below z.ok).cell 0 _ rfl
  have k1 := fun z : WIn (fun w' => Below w1.heap.size w1 w') => (HX1.out.below z.ok).cell 1 _ rfl
  have k2 := fun z : WIn (fun w' => Below w1.heap.size w1 w') => (HX1.out.below z.ok).cell 2 _ rfl
  have k3 := fun z : WIn (fun w' => Below w1.heap.size w1 w') => (HX1.out.below z.ok).cell 3 _ rfl
  have k4 := fun z : WIn (fun w' => Below w1.heap.size w1 w') => (HX1.out.below z.ok).cell 4 _ rfl
  have k5 := fun z : WIn (fun w' => Below w1.heap.size w1 w') => (HX1.out.below z.ok).cell 5 _ rfl
  have k6 := fun z : WIn (fun w' => Below w1.heap.size w1 w') => (HX1.out.below z.ok).cell 6 _ rfl
  have k7 := fun z : WIn (fun w' => Below w1.heap.size w1 w') => (HX1.out.below z.ok).cell 7 _ rfl
  have k8 := fun z : WIn (fun w' => Below w1.heap.size w1 w') => (HX1.out.below z.ok).cell 8 _ rfl
  have l0 := fun z : WIn (fun w' => Below w1.heap.size w1 w') => (HL1.out.below z.ok).cell 0 _ rfl
  have l1 := fun z : WIn (fun w' => Below w1.heap.size w1 w') => (HL1.out.below z.ok).cell 1 _ rfl
  have l2 := fun z : WIn (fun w' => Below w1.heap.size w1 w') => (HL1.out.below z.ok).cell 2 _ rfl
  have l3 := fun z : WIn (fun w' => Below w1.heap.size w1 w') => (HL1.out.below z.ok).cell 3 _ rfl
  have l4 := fun z : WIn (fun w' => Below w1.heap.size w1 w') => (HL1.out.below z.ok).cell 4 _ rfl
  have ne : Nonempty (WIn (fun w' => Below w1.heap.size w1 w')) := ⟨⟨w1, Below.refl _ _⟩⟩
  refine wp_region_ord (C := fun w' => ∃ z : WIn (fun w' => Below w1.heap.size w1 w'), w' = z.w) [(false, 0), (false, 1), (false, 2), (false, 3), (false, 4), (false, 5), (false, 6), (false, 7), (false, 8), (false, 9), (true, 10), (false, 11)] (by kernel_rfl) (by kernel_rfl) ⟨⟨w1.drew, (Below.refl _ _).drew⟩, rfl⟩ ?_
  iterate 10 (refine ord_still rfl rfl ?_; go_big_quiet_step (fail); refine wpQuiet_nil ?_)
  refine ord_mem rfl rfl ?_
  go_simp
  refine (unless_any _ _ _).mono ?_
  rintro r w3 ⟨rfl, hw3⟩
  replace hw3 := hw3.symm
  subst hw3
  refine ⟨⟨⟨_, (Below.refl _ _).drew⟩, rfl⟩, ?_⟩
  iterate 1 (refine ord_still rfl rfl ?_; go_big_quiet_step (fail); refine wpQuiet_nil ?_)
  refine ord_end ?_
  go_wp2
  go_ret
  exact ⟨rfl, HB1.out.drew⟩

theorem csigned_any (w : World) (la b : Nat) (ft : List Nat) (S : St) (hR : Rep w b ft S) (W p : Int) (v : Value) (sum : Int) (e : Ent) (x : Value) (he : EOk e) (hp : U64 p) (hx : Rd w x e.b) (hlen : e.b.length ≤ 90000) (hl : Blk w la 91 [ptr b, .int .i64 W, .int .u64 p, v, .int .u64 sum]) :
    Calls Try.prog 51 #[cv la e x] w fun r w' => r = .returned (.int .i64 (unl (rightB e && S.verify p (textL e) e.g) 6)) ∧ Below w.heap.size w w' := by
  have HV : Hid (Rd w x e.b) := hx
  have HRp : Hid (Rep w b ft S) := hR
  have R := fun w' (h : Rd w' x e.b) (h' : Rep w' b ft S) => holdsE_any w' b ft S h' p hp e x he h hlen
  generalize (rightB e && S.verify p (textL e) e.g) = q at *
  unfold ev at R
  obtain ⟨a, cap, rfl⟩ := hx.len
  obtain ⟨ew, ei, ep, et, eu, en, eb, eg⟩ := e
  unfold cv
  dsimp only at *
  obtain ⟨w1, hw1⟩ : ∃ w1, w1 = w.alloc (.cells #[ptr la, .int .i64 ew, .int .i64 ei, .int .u64 ep, .int .i64 et, .int .i64 eu, .int .i64 en, .slice a eb.length cap, .int .u64 eg] 96) := ⟨_, rfl⟩
  have HB1 : Hid (Below w.heap.size w w1) := by show Below _ _ _; rw [hw1]; exact balloc (Below.refl _ _) _
  have HX1 : Hid (Blk w1 w.heap.size 96 [ptr la, .int .i64 ew, .int .i64 ei, .int .u64 ep, .int .i64 et, .int .i64 eu, .int .i64 en, .slice a eb.length cap, .int .u64 eg]) := by show Blk _ _ _ _; rw [hw1]; exact blk_new w [ptr la, .int .i64 ew, .int .i64 ei, .int .u64 ep, .int .i64 et, .int .i64 eu, .int .i64 en, .slice a eb.length cap, .int .u64 eg] 96
  have HL1 : Hid (Blk w1 la 91 [ptr b, .int .i64 W, .int .u64 p, v, .int .u64 sum]) := (show Blk _ _ _ _ from hl.below HB1.out)
  have HR : Hid (∀ w', Rd w' (.slice a eb.length cap) eb → Rep w' b ft S → Calls Try.prog 72 #[ptr b, .int .u64 p, .agg #[.int .i64 ew, .int .i64 ei, .int .u64 ep, .int .i64 et, .int .i64 eu, .int .i64 en, .slice a eb.length cap, .int .u64 eg]] w' fun r w'' => r = .returned (.bool q) ∧ Below w'.heap.size w' w'') := R
  clear hx hl R hR he hp hlen
  go_enter Try.func51, Try.ntmps51
  go_upto_region 1 with fail
  rw [← hw1]
  obtain ⟨n, hn⟩ : ∃ n, n = w.heap.size := ⟨_, rfl⟩
  rw [← hn] at HX1 ⊢
  clear hw1 hn
  have k0 := fun z : WIn (fun w' => Below w1.heap.size w1 w') => (HX1.out.below z.ok).cell 0 _ rfl
  have k1 := fun z : WIn (fun w' => Below w1.heap.size w1 w') => (HX1.out.below z.ok).cell 1 _ rfl
  have k2 := fun z : WIn (fun w' => Below w1.heap.size w1 w') => (HX1.out.below z.ok).cell 2 _ rfl
  have k3 := fun z : WIn (fun w' => Below w1.heap.size w1 w') => (HX1.out.below z.ok).cell 3 _ rfl
  have k4 := fun z : WIn (fun w' => Below w1.heap.size w1 w') => (HX1.out.below z.ok).cell 4 _ rfl
  have k5 := fun z : WIn (fun w' => Below w1.heap.size w1 w') => (HX1.out.below z.ok).cell 5 _ rfl
  have k6 := fun z : WIn (fun w' => Below w1.heap.size w1 w') => (HX1.out.below z.ok).cell 6 _ rfl
  have k7 := fun z : WIn (fun w' => Below w1.heap.size w1 w') => (HX1.out.below z.ok).cell 7 _ rfl
  have k8 := fun z : WIn (fun w' => Below w1.heap.size w1 w') => (HX1.out.below z.ok).cell 8 _ rfl
  have l0 := fun z : WIn (fun w' => Below w1.heap.size w1 w') => (HL1.out.below z.ok).cell 0 _ rfl
  have l1 := fun z : WIn (fun w' => Below w1.heap.size w1 w') => (HL1.out.below z.ok).cell 1 _ rfl
  have l2 := fun z : WIn (fun w' => Below w1.heap.size w1 w') => (HL1.out.below z.ok).cell 2 _ rfl
  have l3 := fun z : WIn (fun w' => Below w1.heap.size w1 w') => (HL1.out.below z.ok).cell 3 _ rfl
  have l4 := fun z : WIn (fun w' => Below w1.heap.size w1 w') => (HL1.out.below z.ok).cell 4 _ rfl
  have ne : Nonempty (WIn (fun w' => Below w1.heap.size w1 w')) := ⟨⟨w1, Below.refl _ _⟩⟩
  refine wp_region_ord (C := fun w' => ∃ z : WIn (fun w' => Below w1.heap.size w1 w'), w' = z.w) [(false, 0), (false, 1), (false, 2), (false, 3), (false, 4), (false, 5), (false, 6), (false, 7), (false, 8), (false, 9), (false, 10), (false, 11), (true, 12), (true, 13), (false, 14)] (by kernel_rfl) (by kernel_rfl) ⟨⟨w1.drew, (Below.refl _ _).drew⟩, rfl⟩ ?_
  iterate 12 (refine ord_still rfl rfl ?_; go_big_quiet_step (fail); refine wpQuiet_nil ?_)
  refine ord_mem rfl rfl ?_
  go_simp
  refine (HR.out _ (HV.out.below HB1.out.drew) (HRp.out.below HB1.out.drew)).mono ?_
  rintro r w2 ⟨rfl, hb2⟩
  have HB2 : Hid (Below w1.heap.size w1 w2) := below_undrew hb2
  clear hb2
  refine ⟨⟨⟨w2, HB2.out⟩, rfl⟩, ?_⟩
  refine ord_mem rfl rfl ?_
  go_simp
  refine (unless_any _ _ _).mono ?_
  rintro r w3 ⟨rfl, hw3⟩
  replace hw3 := hw3.symm
  subst hw3
  refine ⟨⟨⟨_, HB2.out⟩, rfl⟩, ?_⟩
  iterate 1 (refine ord_still rfl rfl ?_; go_big_quiet_step (fail); refine wpQuiet_nil ?_)
  refine ord_end ?_
  go_wp2
  go_ret
  exact ⟨rfl, bnext HB1.out HB2.out⟩

theorem cunmet_out (w : World) (la b : Nat) (W p : Int) (av : Option Addr) (nv cv' : Nat) (sum : Int) (e : Ent) (x : Value) (hx : Rd w x e.b) (hnv : nv ≤ 200) (hi : (nv : Int) ≤ e.i) (hl : Blk w la 91 [ptr b, .int .i64 W, .int .u64 p, .slice av nv cv', .int .u64 sum]) :
    Calls Try.prog 52 #[cv la e x] w fun r w' => r = .returned (.int .i64 0) ∧ Below w.heap.size w w' := by
  obtain ⟨a, cap, rfl⟩ := hx.len
  obtain ⟨ew, ei, ep, et, eu, en, eb, eg⟩ := e
  unfold cv
  dsimp only at *
  obtain ⟨w1, hw1⟩ : ∃ w1, w1 = w.alloc (.cells #[ptr la, .int .i64 ew, .int .i64 ei, .int .u64 ep, .int .i64 et, .int .i64 eu, .int .i64 en, .slice a eb.length cap, .int .u64 eg] 96) := ⟨_, rfl⟩
  have HB1 : Hid (Below w.heap.size w w1) := by show Below _ _ _; rw [hw1]; exact balloc (Below.refl _ _) _
  have HX1 : Hid (Blk w1 w.heap.size 96 [ptr la, .int .i64 ew, .int .i64 ei, .int .u64 ep, .int .i64 et, .int .i64 eu, .int .i64 en, .slice a eb.length cap, .int .u64 eg]) := by show Blk _ _ _ _; rw [hw1]; exact blk_new w [ptr la, .int .i64 ew, .int .i64 ei, .int .u64 ep, .int .i64 et, .int .i64 eu, .int .i64 en, .slice a eb.length cap, .int .u64 eg] 96
  have HL1 : Hid (Blk w1 la 91 [ptr b, .int .i64 W, .int .u64 p, .slice av nv cv', .int .u64 sum]) := (show Blk _ _ _ _ from hl.below HB1.out)
  clear hx hl
  go_enter Try.func52, Try.ntmps52
  go_upto_region 1 with fail
  rw [← hw1]
  obtain ⟨n, hn⟩ : ∃ n, n = w.heap.size := ⟨_, rfl⟩
  rw [← hn] at HX1 ⊢
  clear hw1 hn
  have k0 := fun z : WIn (fun w' => Below w1.heap.size w1 w') => (HX1.out.below z.ok).cell 0 _ rfl
  have k1 := fun z : WIn (fun w' => Below w1.heap.size w1 w') => (HX1.out.below z.ok).cell 1 _ rfl
  have k2 := fun z : WIn (fun w' => Below w1.heap.size w1 w') => (HX1.out.below z.ok).cell 2 _ rfl
  have k3 := fun z : WIn (fun w' => Below w1.heap.size w1 w') => (HX1.out.below z.ok).cell 3 _ rfl
  have k4 := fun z : WIn (fun w' => Below w1.heap.size w1 w') => (HX1.out.below z.ok).cell 4 _ rfl
  have k5 := fun z : WIn (fun w' => Below w1.heap.size w1 w') => (HX1.out.below z.ok).cell 5 _ rfl
  have k6 := fun z : WIn (fun w' => Below w1.heap.size w1 w') => (HX1.out.below z.ok).cell 6 _ rfl
  have k7 := fun z : WIn (fun w' => Below w1.heap.size w1 w') => (HX1.out.below z.ok).cell 7 _ rfl
  have k8 := fun z : WIn (fun w' => Below w1.heap.size w1 w') => (HX1.out.below z.ok).cell 8 _ rfl
  have l0 := fun z : WIn (fun w' => Below w1.heap.size w1 w') => (HL1.out.below z.ok).cell 0 _ rfl
  have l1 := fun z : WIn (fun w' => Below w1.heap.size w1 w') => (HL1.out.below z.ok).cell 1 _ rfl
  have l2 := fun z : WIn (fun w' => Below w1.heap.size w1 w') => (HL1.out.below z.ok).cell 2 _ rfl
  have l3 := fun z : WIn (fun w' => Below w1.heap.size w1 w') => (HL1.out.below z.ok).cell 3 _ rfl
  have l4 := fun z : WIn (fun w' => Below w1.heap.size w1 w') => (HL1.out.below z.ok).cell 4 _ rfl
  have ne : Nonempty (WIn (fun w' => Below w1.heap.size w1 w')) := ⟨⟨w1, Below.refl _ _⟩⟩
  refine wp_region_ord (C := fun w' => ∃ z : WIn (fun w' => Below w1.heap.size w1 w'), w' = z.w) [(false, 0), (false, 1), (false, 2), (false, 3), (false, 4), (false, 5), (false, 6), (false, 7), (false, 8), (false, 9)] (by kernel_rfl) (by kernel_rfl) ⟨⟨w1.drew, (Below.refl _ _).drew⟩, rfl⟩ ?_
  iterate 10 (refine ord_still rfl rfl ?_; go_big_quiet_step (fail); refine wpQuiet_nil ?_)
  refine ord_end ?_
  go_wp2
  go_ret
  exact ⟨rfl, HB1.out.drew⟩

theorem cunmet_in (w : World) (la b : Nat) (W p : Int) (g off nv cv' : Nat) (sum : Int) (e : Ent) (x : Value) (hx : Rd w x e.b) (hnv : nv ≤ 200) (hcv : nv ≤ cv' ∧ cv' ≤ 9223372036854775807) (i : Nat) (hi : e.i = i) (hin : i < nv) (f : Ent) (y : Value) (hy : Rd w y f.b)
    (hc : ∀ j u, (ec f y)[j]? = some u → w.cell? ⟨g, off + i * 8 + j, none⟩ = some u) (hl : Blk w la 91 [ptr b, .int .i64 W, .int .u64 p, .slice (some ⟨g, off, none⟩) nv cv', .int .u64 sum]) :
    Calls Try.prog 52 #[cv la e x] w fun r w' => r = .returned (.int .i64 (if sameB e f then 8 else 9)) ∧ Below w.heap.size w w' := by
  have HV : Hid (Rd w x e.b) := hx
  have HY : Hid (Rd w y f.b) := hy
  have R := fun w' (h : Rd w' x e.b) (h' : Rd w' y f.b) => sameE_any w' e f x y h h'
  generalize sameB e f = q at *
  unfold ev at R
  obtain ⟨a, cap, rfl⟩ := hx.len
  obtain ⟨ew, ei, ep, et, eu, en, eb, eg⟩ := e
  unfold cv
  dsimp only at *
  obtain ⟨a2, cap2, rfl⟩ := hy.len
  obtain ⟨fw, fi, fp, ft, fu, fn, fb, fg⟩ := f
  unfold ec at hc
  dsimp only at *
  subst hi
  obtain ⟨w1, hw1⟩ : ∃ w1, w1 = w.alloc (.cells #[ptr la, .int .i64 ew, .int .i64 (i : Int), .int .u64 ep, .int .i64 et, .int .i64 eu, .int .i64 en, .slice a eb.length cap, .int .u64 eg] 96) := ⟨_, rfl⟩
  have HB1 : Hid (Below w.heap.size w w1) := by show Below _ _ _; rw [hw1]; exact balloc (Below.refl _ _) _
  have HX1 : Hid (Blk w1 w.heap.size 96 [ptr la, .int .i64 ew, .int .i64 (i : Int), .int .u64 ep, .int .i64 et, .int .i64 eu, .int .i64 en, .slice a eb.length cap, .int .u64 eg]) := by show Blk _ _ _ _; rw [hw1]; exact blk_new w [ptr la, .int .i64 ew, .int .i64 (i : Int), .int .u64 ep, .int .i64 et, .int .i64 eu, .int .i64 en, .slice a eb.length cap, .int .u64 eg] 96
  have HL1 : Hid (Blk w1 la 91 [ptr b, .int .i64 W, .int .u64 p, .slice (some ⟨g, off, none⟩) nv cv', .int .u64 sum]) := (show Blk _ _ _ _ from hl.below HB1.out)
  have HR : Hid (∀ w', Rd w' (.slice a eb.length cap) eb → Rd w' (.slice a2 fb.length cap2) fb → Calls Try.prog 73 #[.agg #[.int .i64 ew, .int .i64 (i : Int), .int .u64 ep, .int .i64 et, .int .i64 eu, .int .i64 en, .slice a eb.length cap, .int .u64 eg], .agg #[.int .i64 fw, .int .i64 fi, .int .u64 fp, .int .i64 ft, .int .i64 fu, .int .i64 fn, .slice a2 fb.length cap2, .int .u64 fg]] w' fun r w'' => r = .returned (.bool q) ∧ Below w'.heap.size w' w'') := R
  have HC : Hid (∀ w', Below w1.heap.size w1 w' → ∀ j u, [.int .i64 fw, .int .i64 fi, .int .u64 fp, .int .i64 ft, .int .i64 fu, .int .i64 fn, .slice a2 fb.length cap2, .int .u64 fg][j]? = some u → w'.cell? ⟨g, off + i * 8 + j, none⟩ = some u) := fun w' hb' j u hu => by
    have h1 := hc j u hu
    have h2 : g < w.heap.size := World.block_lt_of_cell? w _ h1
    rw [World.cell?_of_block ((bnext HB1.out hb').block g h2)]
    exact h1
  clear hx hl R hy hc
  go_enter Try.func52, Try.ntmps52
  go_upto_region 1 with fail
  rw [← hw1]
  obtain ⟨n, hn⟩ : ∃ n, n = w.heap.size := ⟨_, rfl⟩
  rw [← hn] at HX1 ⊢
  clear hw1 hn
  have k0 := fun z : WIn (fun w' => Below w1.heap.size w1 w') => (HX1.out.below z.ok).cell 0 _ rfl
  have k1 := fun z : WIn (fun w' => Below w1.heap.size w1 w') => (HX1.out.below z.ok).cell 1 _ rfl
  have k2 := fun z : WIn (fun w' => Below w1.heap.size w1 w') => (HX1.out.below z.ok).cell 2 _ rfl
  have k3 := fun z : WIn (fun w' => Below w1.heap.size w1 w') => (HX1.out.below z.ok).cell 3 _ rfl
  have k4 := fun z : WIn (fun w' => Below w1.heap.size w1 w') => (HX1.out.below z.ok).cell 4 _ rfl
  have k5 := fun z : WIn (fun w' => Below w1.heap.size w1 w') => (HX1.out.below z.ok).cell 5 _ rfl
  have k6 := fun z : WIn (fun w' => Below w1.heap.size w1 w') => (HX1.out.below z.ok).cell 6 _ rfl
  have k7 := fun z : WIn (fun w' => Below w1.heap.size w1 w') => (HX1.out.below z.ok).cell 7 _ rfl
  have k8 := fun z : WIn (fun w' => Below w1.heap.size w1 w') => (HX1.out.below z.ok).cell 8 _ rfl
  have l0 := fun z : WIn (fun w' => Below w1.heap.size w1 w') => (HL1.out.below z.ok).cell 0 _ rfl
  have l1 := fun z : WIn (fun w' => Below w1.heap.size w1 w') => (HL1.out.below z.ok).cell 1 _ rfl
  have l2 := fun z : WIn (fun w' => Below w1.heap.size w1 w') => (HL1.out.below z.ok).cell 2 _ rfl
  have l3 := fun z : WIn (fun w' => Below w1.heap.size w1 w') => (HL1.out.below z.ok).cell 3 _ rfl
  have l4 := fun z : WIn (fun w' => Below w1.heap.size w1 w') => (HL1.out.below z.ok).cell 4 _ rfl
  have ne : Nonempty (WIn (fun w' => Below w1.heap.size w1 w')) := ⟨⟨w1, Below.refl _ _⟩⟩
  have m0 := fun z : WIn (fun w' => Below w1.heap.size w1 w') => HC.out z.w z.ok 0 _ rfl
  have m1 := fun z : WIn (fun w' => Below w1.heap.size w1 w') => HC.out z.w z.ok 1 _ rfl
  have m2 := fun z : WIn (fun w' => Below w1.heap.size w1 w') => HC.out z.w z.ok 2 _ rfl
  have m3 := fun z : WIn (fun w' => Below w1.heap.size w1 w') => HC.out z.w z.ok 3 _ rfl
  have m4 := fun z : WIn (fun w' => Below w1.heap.size w1 w') => HC.out z.w z.ok 4 _ rfl
  have m5 := fun z : WIn (fun w' => Below w1.heap.size w1 w') => HC.out z.w z.ok 5 _ rfl
  have m6 := fun z : WIn (fun w' => Below w1.heap.size w1 w') => HC.out z.w z.ok 6 _ rfl
  have m7 := fun z : WIn (fun w' => Below w1.heap.size w1 w') => HC.out z.w z.ok 7 _ rfl
  simp only [Nat.add_zero] at m0
  refine wp_region_ord (C := fun w' => ∃ z : WIn (fun w' => Below w1.heap.size w1 w'), w' = z.w) [(false, 0), (false, 1), (false, 2), (false, 3), (false, 4), (false, 5), (false, 6), (false, 7), (false, 8), (false, 9)] (by kernel_rfl) (by kernel_rfl) ⟨⟨w1.drew, (Below.refl _ _).drew⟩, rfl⟩ ?_
  iterate 10 (refine ord_still rfl rfl ?_; go_big_quiet_step (fail); refine wpQuiet_nil ?_)
  refine ord_end ?_
  go_upto_region 3 with fail
  refine wp_region_ord (C := fun w' => ∃ z : WIn (fun w' => Below w1.heap.size w1 w'), w' = z.w) [(false, 0), (false, 1), (false, 2), (false, 3), (false, 4), (false, 5), (false, 6), (false, 7), (false, 8), (false, 9), (false, 10), (false, 11), (true, 12)] (by kernel_rfl) (by kernel_rfl) ⟨⟨w1.drew.drew, (Below.refl _ _).drew.drew⟩, rfl⟩ ?_
  iterate 12 (refine ord_still rfl rfl ?_; go_big_quiet_step (fail); refine wpQuiet_nil ?_)
  refine ord_mem rfl rfl ?_
  go_simp
  refine (HR.out _ (HV.out.below HB1.out.drew.drew) (HY.out.below HB1.out.drew.drew)).mono ?_
  rintro r w2 ⟨rfl, hb2⟩
  have HB2 : Hid (Below w1.heap.size w1 w2) := below_undrew (below_undrew hb2)
  clear hb2
  refine ⟨⟨⟨w2, HB2.out⟩, rfl⟩, ?_⟩
  refine ord_end ?_
  cases q
  all_goals
    go_wp2
    go_ret
    exact ⟨rfl, bnext HB1.out HB2.out⟩

theorem clater_first (w : World) (la b : Nat) (W p : Int) (av : Option Addr) (cv' : Nat) (sum : Int) (e : Ent) (x : Value) (hx : Rd w x e.b) (hl : Blk w la 91 [ptr b, .int .i64 W, .int .u64 p, .slice av 0 cv', .int .u64 sum]) :
    Calls Try.prog 43 #[cv la e x] w fun r w' => r = .returned (.int .i64 (unl true 2)) ∧ Below w.heap.size w w' := by
  obtain ⟨a, cap, rfl⟩ := hx.len
  obtain ⟨ew, ei, ep, et, eu, en, eb, eg⟩ := e
  unfold cv
  dsimp only at *
  obtain ⟨w1, hw1⟩ : ∃ w1, w1 = w.alloc (.cells #[ptr la, .int .i64 ew, .int .i64 ei, .int .u64 ep, .int .i64 et, .int .i64 eu, .int .i64 en, .slice a eb.length cap, .int .u64 eg] 96) := ⟨_, rfl⟩
  have HB1 : Hid (Below w.heap.size w w1) := by show Below _ _ _; rw [hw1]; exact balloc (Below.refl _ _) _
  have HX1 : Hid (Blk w1 w.heap.size 96 [ptr la, .int .i64 ew, .int .i64 ei, .int .u64 ep, .int .i64 et, .int .i64 eu, .int .i64 en, .slice a eb.length cap, .int .u64 eg]) := by show Blk _ _ _ _; rw [hw1]; exact blk_new w [ptr la, .int .i64 ew, .int .i64 ei, .int .u64 ep, .int .i64 et, .int .i64 eu, .int .i64 en, .slice a eb.length cap, .int .u64 eg] 96
  have HL1 : Hid (Blk w1 la 91 [ptr b, .int .i64 W, .int .u64 p, .slice av 0 cv', .int .u64 sum]) := (show Blk _ _ _ _ from hl.below HB1.out)
  have c0 := (blk_new w [ptr la, .int .i64 ew, .int .i64 ei, .int .u64 ep, .int .i64 et, .int .i64 eu, .int .i64 en, .slice a eb.length cap, .int .u64 eg] 96).cell 0 _ rfl
  have c3 := (hl.alloc (.cells #[ptr la, .int .i64 ew, .int .i64 ei, .int .u64 ep, .int .i64 et, .int .i64 eu, .int .i64 en, .slice a eb.length cap, .int .u64 eg] 96)).cell 3 _ rfl
  clear hx hl
  go_enter Try.func43, Try.ntmps43
  go_upto_region 2 with fail
  rw [← hw1]
  obtain ⟨n, hn⟩ : ∃ n, n = w.heap.size := ⟨_, rfl⟩
  rw [← hn] at HX1 ⊢
  clear hw1 hn c3 c0
  have k0 := fun z : WIn (fun w' => Below w1.heap.size w1 w') => (HX1.out.below z.ok).cell 0 _ rfl
  have k1 := fun z : WIn (fun w' => Below w1.heap.size w1 w') => (HX1.out.below z.ok).cell 1 _ rfl
  have k2 := fun z : WIn (fun w' => Below w1.heap.size w1 w') => (HX1.out.below z.ok).cell 2 _ rfl
  have k3 := fun z : WIn (fun w' => Below w1.heap.size w1 w') => (HX1.out.below z.ok).cell 3 _ rfl
  have k4 := fun z : WIn (fun w' => Below w1.heap.size w1 w') => (HX1.out.below z.ok).cell 4 _ rfl
  have k5 := fun z : WIn (fun w' => Below w1.heap.size w1 w') => (HX1.out.below z.ok).cell 5 _ rfl
  have k6 := fun z : WIn (fun w' => Below w1.heap.size w1 w') => (HX1.out.below z.ok).cell 6 _ rfl
  have k7 := fun z : WIn (fun w' => Below w1.heap.size w1 w') => (HX1.out.below z.ok).cell 7 _ rfl
  have k8 := fun z : WIn (fun w' => Below w1.heap.size w1 w') => (HX1.out.below z.ok).cell 8 _ rfl
  have l0 := fun z : WIn (fun w' => Below w1.heap.size w1 w') => (HL1.out.below z.ok).cell 0 _ rfl
  have l1 := fun z : WIn (fun w' => Below w1.heap.size w1 w') => (HL1.out.below z.ok).cell 1 _ rfl
  have l2 := fun z : WIn (fun w' => Below w1.heap.size w1 w') => (HL1.out.below z.ok).cell 2 _ rfl
  have l3 := fun z : WIn (fun w' => Below w1.heap.size w1 w') => (HL1.out.below z.ok).cell 3 _ rfl
  have l4 := fun z : WIn (fun w' => Below w1.heap.size w1 w') => (HL1.out.below z.ok).cell 4 _ rfl
  have ne : Nonempty (WIn (fun w' => Below w1.heap.size w1 w')) := ⟨⟨w1, Below.refl _ _⟩⟩
  refine wp_region_ord (C := fun w' => ∃ z : WIn (fun w' => Below w1.heap.size w1 w'), w' = z.w) [(false, 0), (false, 1), (false, 2), (false, 3), (false, 4), (false, 5), (false, 6), (false, 7), (false, 8), (false, 9), (false, 10), (false, 11), (false, 12), (false, 13), (false, 14), (false, 15), (false, 16), (false, 17), (true, 18), (false, 19)] (by kernel_rfl) (by kernel_rfl) ⟨⟨w1.drew, (Below.refl _ _).drew⟩, rfl⟩ ?_
  iterate 16 (refine ord_still rfl rfl ?_; go_big_quiet_step (fail); refine wpQuiet_nil ?_)
  refine ord_shut rfl rfl ?_
  go_big_quiet_step (fail)
  refine wpQuiet_nil ?_
  iterate 1 (refine ord_still rfl rfl ?_; go_big_quiet_step (fail); refine wpQuiet_nil ?_)
  refine ord_mem rfl rfl ?_
  go_simp
  refine (unless_any _ _ _).mono ?_
  rintro r w3 ⟨rfl, hw3⟩
  replace hw3 := hw3.symm
  subst hw3
  refine ⟨⟨⟨_, (Below.refl _ _).drew⟩, rfl⟩, ?_⟩
  iterate 1 (refine ord_still rfl rfl ?_; go_big_quiet_step (fail); refine wpQuiet_nil ?_)
  refine ord_end ?_
  go_wp2
  go_ret
  exact ⟨rfl, HB1.out.drew⟩

theorem clater_more (w : World) (la b : Nat) (W p : Int) (g off nv cv' : Nat) (sum : Int) (e : Ent) (x : Value) (hx : Rd w x e.b) (hnv : nv < 200) (hcv : nv + 1 ≤ cv' ∧ cv' ≤ 9223372036854775807) (f : Ent) (y : Value)
    (hc : ∀ j u, (ec f y)[j]? = some u → w.cell? ⟨g, off + nv * 8 + j, none⟩ = some u) (hl : Blk w la 91 [ptr b, .int .i64 W, .int .u64 p, .slice (some ⟨g, off, none⟩) (nv + 1) cv', .int .u64 sum]) :
    Calls Try.prog 43 #[cv la e x] w fun r w' => r = .returned (.int .i64 (unl (decide (ltP (f.t, f.u) (e.t, e.u))) 2)) ∧ Below w.heap.size w w' := by
  have R := fun w' => less_any (f.t, f.u) (e.t, e.u) w'
  generalize decide (ltP (f.t, f.u) (e.t, e.u)) = q at *
  unfold sv at R
  obtain ⟨a, cap, rfl⟩ := hx.len
  obtain ⟨ew, ei, ep, et, eu, en, eb, eg⟩ := e
  unfold cv
  dsimp only at *
  obtain ⟨fw, fi, fp, ft, fu, fn, fb, fg⟩ := f
  unfold ec at hc
  dsimp only at *
  obtain ⟨w1, hw1⟩ : ∃ w1, w1 = w.alloc (.cells #[ptr la, .int .i64 ew, .int .i64 ei, .int .u64 ep, .int .i64 et, .int .i64 eu, .int .i64 en, .slice a eb.length cap, .int .u64 eg] 96) := ⟨_, rfl⟩
  have HB1 : Hid (Below w.heap.size w w1) := by show Below _ _ _; rw [hw1]; exact balloc (Below.refl _ _) _
  have HX1 : Hid (Blk w1 w.heap.size 96 [ptr la, .int .i64 ew, .int .i64 ei, .int .u64 ep, .int .i64 et, .int .i64 eu, .int .i64 en, .slice a eb.length cap, .int .u64 eg]) := by show Blk _ _ _ _; rw [hw1]; exact blk_new w [ptr la, .int .i64 ew, .int .i64 ei, .int .u64 ep, .int .i64 et, .int .i64 eu, .int .i64 en, .slice a eb.length cap, .int .u64 eg] 96
  have HL1 : Hid (Blk w1 la 91 [ptr b, .int .i64 W, .int .u64 p, .slice (some ⟨g, off, none⟩) (nv + 1) cv', .int .u64 sum]) := (show Blk _ _ _ _ from hl.below HB1.out)
  have HR : Hid (∀ w', Calls Try.prog 63 #[.agg #[.int .i64 ft, .int .i64 fu], .agg #[.int .i64 et, .int .i64 eu]] w' fun r w'' => r = .returned (.bool q) ∧ Below w'.heap.size w' w'') := R
  have HC : Hid (∀ w', Below w1.heap.size w1 w' → ∀ j u, [.int .i64 fw, .int .i64 fi, .int .u64 fp, .int .i64 ft, .int .i64 fu, .int .i64 fn, y, .int .u64 fg][j]? = some u → w'.cell? ⟨g, off + nv * 8 + j, none⟩ = some u) := fun w' hb' j u hu => by
    have h1 := hc j u hu
    have h2 : g < w.heap.size := World.block_lt_of_cell? w _ h1
    rw [World.cell?_of_block ((bnext HB1.out hb').block g h2)]
    exact h1
  have c0 := (blk_new w [ptr la, .int .i64 ew, .int .i64 ei, .int .u64 ep, .int .i64 et, .int .i64 eu, .int .i64 en, .slice a eb.length cap, .int .u64 eg] 96).cell 0 _ rfl
  have c3 := (hl.alloc (.cells #[ptr la, .int .i64 ew, .int .i64 ei, .int .u64 ep, .int .i64 et, .int .i64 eu, .int .i64 en, .slice a eb.length cap, .int .u64 eg] 96)).cell 3 _ rfl
  have z1 : (((nv + 1 : Nat) : Int) == 0) = false := by simp; omega
  have z2 : ((nv : Int) + 1 == 0) = false := by simp; omega
  clear hx hl R hc
  go_enter Try.func43, Try.ntmps43
  go_upto_region 2 with fail
  rw [← hw1]
  obtain ⟨n, hn⟩ : ∃ n, n = w.heap.size := ⟨_, rfl⟩
  rw [← hn] at HX1 ⊢
  clear hw1 hn c3 c0
  have k0 := fun z : WIn (fun w' => Below w1.heap.size w1 w') => (HX1.out.below z.ok).cell 0 _ rfl
  have k1 := fun z : WIn (fun w' => Below w1.heap.size w1 w') => (HX1.out.below z.ok).cell 1 _ rfl
  have k2 := fun z : WIn (fun w' => Below w1.heap.size w1 w') => (HX1.out.below z.ok).cell 2 _ rfl
  have k3 := fun z : WIn (fun w' => Below w1.heap.size w1 w') => (HX1.out.below z.ok).cell 3 _ rfl
  have k4 := fun z : WIn (fun w' => Below w1.heap.size w1 w') => (HX1.out.below z.ok).cell 4 _ rfl
  have k5 := fun z : WIn (fun w' => Below w1.heap.size w1 w') => (HX1.out.below z.ok).cell 5 _ rfl
  have k6 := fun z : WIn (fun w' => Below w1.heap.size w1 w') => (HX1.out.below z.ok).cell 6 _ rfl
  have k7 := fun z : WIn (fun w' => Below w1.heap.size w1 w') => (HX1.out.below z.ok).cell 7 _ rfl
  have k8 := fun z : WIn (fun w' => Below w1.heap.size w1 w') => (HX1.out.below z.ok).cell 8 _ rfl
  have l0 := fun z : WIn (fun w' => Below w1.heap.size w1 w') => (HL1.out.below z.ok).cell 0 _ rfl
  have l1 := fun z : WIn (fun w' => Below w1.heap.size w1 w') => (HL1.out.below z.ok).cell 1 _ rfl
  have l2 := fun z : WIn (fun w' => Below w1.heap.size w1 w') => (HL1.out.below z.ok).cell 2 _ rfl
  have l3 := fun z : WIn (fun w' => Below w1.heap.size w1 w') => (HL1.out.below z.ok).cell 3 _ rfl
  have l4 := fun z : WIn (fun w' => Below w1.heap.size w1 w') => (HL1.out.below z.ok).cell 4 _ rfl
  have ne : Nonempty (WIn (fun w' => Below w1.heap.size w1 w')) := ⟨⟨w1, Below.refl _ _⟩⟩
  have m3 := fun z : WIn (fun w' => Below w1.heap.size w1 w') => HC.out z.w z.ok 3 _ rfl
  have m4 := fun z : WIn (fun w' => Below w1.heap.size w1 w') => HC.out z.w z.ok 4 _ rfl
  refine wp_region_ord (C := fun w' => ∃ z : WIn (fun w' => Below w1.heap.size w1 w'), w' = z.w) [(false, 0), (false, 1), (false, 2), (false, 3), (false, 4), (false, 5), (false, 6), (false, 7), (false, 8), (false, 9), (false, 10), (false, 11), (false, 12), (false, 13), (false, 14), (false, 15), (true, 16), (false, 17), (true, 18), (false, 19)] (by kernel_rfl) (by kernel_rfl) ⟨⟨w1.drew, (Below.refl _ _).drew⟩, rfl⟩ ?_
  iterate 16 (refine ord_still rfl rfl ?_; go_big_quiet_step (fail); refine wpQuiet_nil ?_)
  refine ord_mem rfl rfl ?_
  go_simp
  refine (HR.out _).mono ?_
  rintro r w2 ⟨rfl, hb2⟩
  have HB2 : Hid (Below w1.heap.size w1 w2) := below_undrew hb2
  clear hb2
  refine ⟨⟨⟨w2, HB2.out⟩, rfl⟩, ?_⟩
  iterate 1 (refine ord_still rfl rfl ?_; go_big_quiet_step (fail); refine wpQuiet_nil ?_)
  refine ord_mem rfl rfl ?_
  go_simp
  refine (unless_any _ _ _).mono ?_
  rintro r w3 ⟨rfl, hw3⟩
  replace hw3 := hw3.symm
  subst hw3
  refine ⟨⟨⟨_, HB2.out⟩, rfl⟩, ?_⟩
  iterate 1 (refine ord_still rfl rfl ?_; go_big_quiet_step (fail); refine wpQuiet_nil ?_)
  refine ord_end ?_
  go_wp2
  go_ret
  exact ⟨rfl, bnext HB1.out HB2.out⟩

end Go.Proofs.Yteedjdflojfhmaa
