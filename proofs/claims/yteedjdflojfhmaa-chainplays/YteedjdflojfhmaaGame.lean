/-
  A law's game: an oracle with a pair, and a log (G1), or two (G2); what each call leaves; the law's own list of entries.
  The chapter's example.
  Steps of a game in memory, as they came in; light: are steps few, and short?
  One step of a law's loop: an entry is issued, and lies in a box; the law's own list of entries.
-/
import Derived.Test.YteedjdflojfhmaaWholeP
import Derived.Test.YteedjdflojfhmaaIssue
import Derived.Test.YteedjdflojfhmaaOdds
import Derived.Test.YteedjdflojfhmaaNew
import Derived.Lib.SlBytesConst
import Derived.Test.YteedjdflojfhmaaChain
namespace Go.Proofs.Yteedjdflojfhmaa
section
set_option linter.unusedVariables false
set_option linter.unusedSimpArgs false
set_option synthInstance.maxSize 20000
set_option maxHeartbeats 2000000
set_option maxRecDepth 20000
open Go.RowKit Go.Maps

structure G1 (w0 w : World) (o : Nat → Nat) (b la : Nat) (s p : Int) (S : St) (L : Lg) : Prop where
  orc : OrcAt w o b S
  log : LogIs w o 3 la b 1 p L
  key : Keyed' S s p
  whole : Whole S 1 p s L
  mv : Mv [1, 3, 4, 5, 6, 7, 8, 9] w0 (fun _ => 0) w o

theorem G1.mvd {I : List Nat} {w0 w w' : World} {o o' : Nat → Nat} {b la : Nat} {s p : Int} {S : St} {L : Lg} (h : G1 w0 w o b la s p S L) (m : Mv I w o w' o') (h0 : 0 ∉ I) (h1 : 1 ∉ I) (h3 : 3 ∉ I) (hI : ∀ i ∈ I, i ∈ [1, 3, 4, 5, 6, 7, 8, 9]) : G1 w0 w' o' b la s p S L :=
  ⟨h.orc.mv m h1, h.log.mv m h0 h3, h.key, h.whole, h.mv.trans (m.widen hI)⟩
theorem G1.below {w0 w w' : World} {o : Nat → Nat} {b la : Nat} {s p : Int} {S : St} {L : Lg} (h : G1 w0 w o b la s p S L) (hb : Below w.heap.size w w') : G1 w0 w' (newTo o w 0) b la s p S L :=
  h.mvd (Mv.of_below (I := []) 0 hb) (by simp) (by simp) (by simp) (by simp)
theorem Mv.all0 {I : List Nat} {w0 w : World} {o : Nat → Nat} (h : Mv I w0 (fun _ => 0) w o) (h0 : 0 ∉ I) : Below w0.heap.size w0 w := h.below (Nat.le_refl _) (fun k _ => h0)
theorem G1.bel {w0 w : World} {o : Nat → Nat} {b la : Nat} {s p : Int} {S : St} {L : Lg} (h : G1 w0 w o b la s p S L) : Below w0.heap.size w0 w := h.mv.all0 (by simp)
/-- Bytes that came in. -/
theorem kp0_in {w0 : World} {v : Value} {l : List Int} (h : Rd w0 v l) : Kp0 w0 (fun _ => 0) v l := ⟨h, fun _ _ _ => rfl⟩
theorem G1.kp {w0 w : World} {o : Nat → Nat} {b la : Nat} {s p : Int} {S : St} {L : Lg} (h : G1 w0 w o b la s p S L) {v : Value} {l : List Int} (hv : Rd w0 v l) : Kp0 w o v l := (kp0_in hv).mv h.mv (by simp)

/-- What Issue answers. -/
structure Issued (S : St) (p s : Int) (L : Lg) (t u n : Int) (l : List Int) (e : Ent) (k : Int) (S' : St) (L' : Lg) : Prop where
  kind : k = issueK L (candE 1 L t u n l)
  yes : k = 0 → IssueOk S 1 p s L (candE 1 L t u n l) e S' L'
  no : k ≠ 0 → e = zeroE ∧ S' = S ∧ L' = L
  len : S'.rows.length ≤ S.rows.length + 2

theorem i64_small {x : Int} (h0 : -1000000 ≤ x) (h1 : x ≤ 1000000) : I64 x := by unfold I64; omega

theorem issue_ans {S : St} {p s : Int} {L : Lg} (K : Keyed' S s p) (h : Whole S 1 p s L) (hN : S.rows.length + 2 < 1000000000) {t u n : Int} (ht : I64 t) (hu : I64 u) (hn : I64 n) {l : List Int} (hl : Oct l) :
    ∃ e k S' L', issueM S 1 s L t u n l = ((e, k), S', L') ∧ Issued S p s L t u n l e k S' L' ∧ Keyed' S' s p ∧ Sub S S' ∧ Whole S' 1 p s L' := by
  by_cases hk : issueK L (candE 1 L t u n l) = 0
  · obtain ⟨e, S', L', h1, h2⟩ := issue_ok K h hN (i64_small (by omega) (by omega)) ht hu hn hl hk
    exact ⟨e, 0, S', L', h1, ⟨hk.symm, fun _ => h2, (fun q => absurd rfl q), h2.len⟩, h2.key, h2.sub, h2.whole⟩
  · exact ⟨_, _, _, _, issue_no hk, ⟨rfl, (fun q => absurd q hk), fun _ => ⟨rfl, rfl, rfl⟩, Nat.le_add_right _ _⟩, K, Sub.refl _, h⟩

theorem G1.issue {w0 w : World} {o : Nat → Nat} {b la : Nat} {s p : Int} {S : St} {L : Lg} (h : G1 w0 w o b la s p S L) (hN : S.rows.length + 2 < 1000000000) {t u n : Int} (ht : I64 t) (hu : I64 u) (hn : I64 n) {l : List Int} {x : Value} (hx : Kp0 w o x l) (hlen : l.length ≤ 90000) :
    Calls Try.prog 19 #[ptr la, .int .u64 s, .agg #[.int .i64 t, .int .i64 u], .int .i64 n, x] w fun r w' => ∃ e k S' L' y o', r = .returned (.tuple #[ev e y, .int .i64 k]) ∧ Issued S p s L t u n l e k S' L' ∧ Sub S S' ∧ G1 w0 w' o' b la s p S' L' ∧ Kp0 w' o' y e.b ∧ Mv [1, 3] w o w' o' := by
  have hI := issue_any h.orc h.log (by omega) (by omega) s t u n ht hu hn l x hx hlen h.key.us h.key.sec hN
  obtain ⟨e, k, S', L', h1, h2, h3, h4, h5⟩ := issue_ans h.key h.whole hN ht hu hn hx.1.oct
  rw [h1] at hI
  refine hI.mono ?_
  rintro r w' ⟨y, rfl, o', q1, q2, q3, q4⟩
  exact ⟨e, k, S', L', y, o', rfl, h2, h4, ⟨q1, q2, h3, h5, h.mv.trans (q4.widen (by simp))⟩, q3, q4⟩

theorem G1.asks {w0 w : World} {o : Nat → Nat} {b la : Nat} {s p : Int} {S : St} {L : Lg} (h : G1 w0 w o b la s p S L) {e : Ent} {x : Value} (he : EOk e) (hx : Rd w x e.b) (hlen : e.b.length ≤ 90000) : Asks w o 3 la b S 1 p L e x := ⟨h.log, h.orc, he, hx, hlen⟩

/-- An oracle, a pair and a log have been made. -/
theorem g1_new {w0 w1 w2 w3 : World} {b : Nat} {ds : List Int} (hd : ∀ d ∈ ds, U64 d) {ft : List Nat} (hr : Rep w1 b ft ⟨ds, []⟩) (hn : ∀ k ∈ ft, w0.heap.size ≤ k) (hbb : Below w0.heap.size w0 w1) (hl2 : Left w1 b ft (⟨ds, []⟩ : St).pair w2)
    (hl3 : ∀ o, LogIs w3 (newTo o w2 3) 3 w2.heap.size b 1 ((⟨ds, []⟩ : St).put .secret).fresh ⟨[], 0⟩) (hb3 : Below w2.heap.size w2 w3) : ∃ o, G1 w0 w3 o b w2.heap.size (⟨ds, []⟩ : St).fresh ((⟨ds, []⟩ : St).put .secret).fresh (⟨ds, []⟩ : St).pair ⟨[], 0⟩ := by
  have g0 : Good ⟨ds, []⟩ := good0 hd
  obtain ⟨p1, p2⟩ := pair_at g0 (by simp)
  have gp := pair_good g0 (by simp)
  have o1 : ∀ k ∈ ft, newTo (fun _ => 0) w0 1 k = 1 := fun k hk => newTo_new (hn k hk)
  obtain ⟨hO2, hM2⟩ := OrcAt.left o1 hl2 hr.room
  have m3 : Mv [] w2 (newTo (newTo (fun _ => 0) w0 1) w1 1) w3 (newTo (newTo (newTo (fun _ => 0) w0 1) w1 1) w2 3) := Mv.of_below 3 hb3
  refine ⟨newTo (newTo (newTo (fun _ => 0) w0 1) w1 1) w2 3, hO2.mv m3 (by simp), hl3 _, ⟨gp, p1, p2⟩, whole_nil p2, ?_⟩
  exact ((Mv.of_below 1 hbb).trans (hM2.widen (by simp))).trans (m3.widen (by simp))
end

section
set_option linter.unusedVariables false
set_option linter.unusedSimpArgs false
set_option synthInstance.maxSize 20000
set_option maxHeartbeats 2000000
set_option maxRecDepth 20000
open Go.RowKit Go.Maps

theorem alive1 {S1 : St} {s p : Int} {e1 : Ent} {k1 : Int} {S2 : St} {L2 : Lg} (h : Issued S1 p s ⟨[], 0⟩ 1 1 0 [120] e1 k1 S2 L2) : k1 = 0 ∧ e1.p = 0 ∧ L2.es = [e1] ∧ IssueOk S1 1 p s ⟨[], 0⟩ (candE 1 ⟨[], 0⟩ 1 1 0 [120]) e1 S2 L2 := by
  have hk : k1 = 0 := by
    rw [h.kind, issueK_zero]
    refine ⟨by simp, ?_, rfl⟩
    unfold rightE rightP candE
    simp
  have hI := h.yes hk
  refine ⟨hk, ?_, hI.es, hI⟩
  rw [hI.form]
  rfl
theorem alive2 {S1 S2 S3 : St} {s p : Int} {e1 e2 : Ent} {k2 : Int} {L2 L3 : Lg} (h1 : IssueOk S1 1 p s ⟨[], 0⟩ (candE 1 ⟨[], 0⟩ 1 1 0 [120]) e1 S2 L2) (h : Issued S2 p s L2 2 1 0 [] e2 k2 S3 L3) : k2 = 0 ∧ e2.p ≠ 0 ∧ L3.es.length = 2 ∧ L3.sum ≠ e2.p ∧ checkM S3 1 p L3 e1 = 8 := by
  have hes : L2.es = [e1] := h1.es
  have hw := h1.whole
  have hsum : L2.sum = (S2.of (.hash (bytesE e1))).getD 0 := by rw [hw.sum, hes]; rfl
  have hhas := hw.has (e := e1) (by rw [hes]; simp)
  obtain ⟨g1, hg1⟩ := Option.isSome_iff_exists.1 hhas
  have hs1 : L2.sum = g1 := by rw [hsum, hg1]; rfl
  have hg0 : g1 ≠ 0 := (of_ok h1.key.good hg1).2.1
  have hform := h1.form
  have ht1 : e1.t = 1 ∧ e1.u = 1 ∧ e1.i = 0 := by rw [hform]; exact ⟨rfl, rfl, rfl⟩
  have hk : k2 = 0 := by
    rw [h.kind, issueK_zero]
    refine ⟨by rw [hes]; simp, ?_, ?_⟩
    · unfold rightE rightP candE
      rw [hes, hs1]
      simp
      omega
    · unfold laterB
      rw [hes]
      show decide (ltP (e1.t, e1.u) (2, 1)) = true
      rw [ht1.1, ht1.2.1]
      simp [ltP]
  have hI := h.yes hk
  have hep : e2.p = g1 ∧ e2.i = 1 := by
    rw [hI.form]
    refine ⟨hs1, ?_⟩
    show ((L2.es.length : Nat) : Int) = 1
    rw [hes]
    rfl
  have hes3 : L3.es = [e1, e2] := by rw [hI.es, hes]; rfl
  have h1' := hI.sub.of _ _ hg1
  refine ⟨hk, by rw [hep.1]; exact hg0, by rw [hes3]; rfl, fun e => ?_, check_replay hI.whole (i := 0) (by rw [hes3]; rfl)⟩
  obtain ⟨g2, hg2⟩ := Option.isSome_iff_exists.1 (hI.whole.has (e := e2) (by rw [hes3]; simp))
  have hs3 : L3.sum = g2 := by
    rw [hI.whole.sum, hes3]
    show (S3.of (.hash (bytesE e2))).getD 0 = g2
    rw [hg2]
    rfl
  rw [hs3, hep.1] at e
  subst e
  have hb := of_inj hI.key.good h1' hg2
  rw [What.hash.injEq] at hb
  have := (bytes_inj h1.right h1.ok hI.right hI.ok [] [] (by rw [hb])).1
  rw [this] at ht1
  omega

theorem alive_any (w : World) : Calls Try.prog 10 #[] w fun r w' => r = .returned (.bool true) ∧ Below w.heap.size w w' := by
  have hPR := fun w' b fo (h : Rep w' b fo ⟨[], []⟩) => pair_any w' b fo ⟨[], []⟩ h (by simp)
  have HN : Hid (∀ (w1 w2 w3 : World) (b : Nat), ∀ ft, Rep w1 b ft ⟨[], []⟩ → (∀ k ∈ ft, w.heap.size ≤ k) → Below w.heap.size w w1 → Left w1 b ft (⟨[], []⟩ : St).pair w2 → (∀ o, LogIs w3 (newTo o w2 3) 3 w2.heap.size b 1 ((⟨[], []⟩ : St).put .secret).fresh ⟨[], 0⟩) → Below w2.heap.size w2 w3 → ∃ o, G1 w w3 o b w2.heap.size (⟨[], []⟩ : St).fresh ((⟨[], []⟩ : St).put .secret).fresh (⟨[], []⟩ : St).pair ⟨[], 0⟩) :=
    fun w1 w2 w3 b ft h1 h2 h3 h4 h5 h6 => g1_new (fun d hd => by cases hd) h1 h2 h3 h4 h5 h6
  have hlen : (⟨[], []⟩ : St).pair.rows.length = 2 := by rw [pair_len]; rfl
  have hS1 : ((⟨[], []⟩ : St).put .secret).put (.pub (⟨[], []⟩ : St).fresh) = (⟨[], []⟩ : St).pair := rfl
  have hup : U64 ((⟨[], []⟩ : St).put .secret).fresh := (at_ok (pair_good (good0 (ds := []) (fun d hd => by cases hd)) (by simp)) (pair_at (good0 (ds := []) (fun d hd => by cases hd)) (by simp)).2).1
  rw [hS1] at hPR
  clear hS1
  generalize (⟨[], []⟩ : St).pair = S1 at *
  generalize (⟨[], []⟩ : St).fresh = s at *
  generalize ((⟨[], []⟩ : St).put .secret).fresh = p at *
  have HPR : Hid (∀ w' b fo, Rep w' b fo ⟨[], []⟩ → Calls Try.prog 12 #[ptr b] w' fun r w'' => r = .returned (.tuple #[.int .u64 s, .int .u64 p]) ∧ Left w' b fo S1 w'') := hPR
  have HLen : Hid (S1.rows.length = 2) := hlen
  have HNL : Hid (∀ w' b, Calls Try.prog 14 #[ptr b, .int .i64 1, .int .u64 p] w' fun r w'' => r = .returned (.tuple #[ptr w'.heap.size, .int .i64 0]) ∧ (∀ o, LogIs w'' (newTo o w' 3) 3 w'.heap.size b 1 p ⟨[], 0⟩) ∧ Below w'.heap.size w' w'') := fun w' b => by
    have hAll : ∀ o, LogIs (w'.alloc (.cells #[ptr b, .int .i64 1, .int .u64 p, .slice none 0 0, .int .u64 0] 91)) (newTo o w' 3) 3 w'.heap.size b 1 p ⟨[], 0⟩ := fun o => log_new 3 b 1 p (i64_small (by omega) (by omega)) hup
    refine (newL_world w' b 1 p (by omega) (by omega)).mono ?_
    rintro r w'' ⟨rfl, rfl⟩
    exact ⟨rfl, hAll, balloc (Below.refl _ _) _⟩
  have kc := fun (w : World) (C : Array Value) (n c : Nat) => Lib.run_convert_bytes_const (P := Try.prog) w 43 5 C n c Try.underlying43 Try.underlying5
  have HL1 : Hid (∀ w : World, Rd (w.alloc (.cells #[.int .u8 120] 5 (1, 2))) (.slice (some ⟨w.heap.size, 0, none⟩) 1 1) [120]) := fun w => rd_rowM w [120] 5 (1, 2) (by unfold Oct; simp) (by unfold maxLen; simp)
  clear hPR hlen hup
  go_enter Try.func10, Try.ntmps10
  go_upto_region 4 with (first
    | (go_at_call 11; go_must (refine (new_any _ [] w (rdU_nil w) (by simp)).mono ?_; rintro r w1 ⟨b, rfl, ⟨ft, hr1, hn1⟩, hb1⟩))
    | (go_at_call 12; go_must (refine (HPR.out w1 b ft hr1).mono ?_; rintro r w2 ⟨rfl, hl2⟩))
    | (go_at_call 14; go_must (refine (HNL.out w2 b).mono ?_; rintro r w3 ⟨rfl, hl3, hb3⟩)))
  obtain ⟨o3, hG3⟩ := HN.out w1 w2 w3 b ft hr1 hn1 hb1 hl2 hl3 hb3
  have HG3 : Hid (G1 w w3 o3 b w2.heap.size s p S1 ⟨[], 0⟩) := hG3
  clear hG3 hr1 hn1 hb1 hl2 hl3 hb3 HN HPR HNL
  obtain ⟨la, hla⟩ : ∃ la, la = w2.heap.size := ⟨_, rfl⟩
  rw [← hla] at HG3 ⊢
  clear hla
  have HI1 : Hid (∀ w4, w4 = w3.alloc (.cells #[.int .u8 120] 5 (1, 2)) → Calls Try.prog 19 #[ptr la, .int .u64 s, .agg #[.int .i64 1, .int .i64 1], .int .i64 0, .slice (some ⟨w3.heap.size, 0, none⟩) 1 1] w4 fun r w' => ∃ e S' L' y o', r = .returned (.tuple #[ev e y, .int .i64 0]) ∧ e.p = 0 ∧ IssueOk S1 1 p s ⟨[], 0⟩ (candE 1 ⟨[], 0⟩ 1 1 0 [120]) e S' L' ∧ G1 w w' o' b la s p S' L' ∧ Kp0 w' o' y e.b) := fun w4 h4 => by
    subst h4
    refine ((HG3.out.below (balloc (Below.refl _ _) _)).issue (by have := HLen.out; omega) (i64_small (by omega) (by omega)) (i64_small (by omega) (by omega)) (i64_small (by omega) (by omega)) (l := [120]) ⟨HL1.out w3, fun _ k hk => newTo_new (by simp [Value.ownBlock] at hk; omega)⟩ (by simp)).mono ?_
    rintro r w' ⟨e, k, S', L', y, o', rfl, h1, h2, h3, h4, h5⟩
    obtain ⟨a1, a2, a3, a4⟩ := alive1 h1
    subst a1
    exact ⟨e, S', L', y, o', rfl, a2, a4, h3, h4⟩
  go_upto_region 5 with (go_at_call 19; go_must (refine (HI1.out _ rfl).mono ?_; rintro r w5 ⟨e1, S2, L2, y1, o5, rfl, hp1, hI1, hG5, hy1⟩; obtain ⟨ay, cy, hyy⟩ := hy1.1.len; subst hyy; have HE1 : Hid (IssueOk S1 1 p s ⟨[], 0⟩ (candE 1 ⟨[], 0⟩ 1 1 0 [120]) e1 S2 L2) := hI1; have HG5 : Hid (G1 w w5 o5 b la s p S2 L2) := hG5; have HY1 : Hid (Kp0 w5 o5 (.slice ay e1.b.length cy) e1.b) := hy1; have HP1 : Hid (e1.p = 0) := hp1; clear hI1 hG5 hy1 hp1; unfold ev))
  have HG6 : Hid (G1 w (w5.alloc (.cells #[.int .i64 e1.w, .int .i64 e1.i, .int .u64 e1.p, .int .i64 e1.t, .int .i64 e1.u, .int .i64 e1.n, .slice ay e1.b.length cy, .int .u64 e1.g] 47)) (newTo o5 w5 0) b la s p S2 L2) := HG5.out.below (balloc (Below.refl _ _) _)
  have HB6 : Hid (Blk (w5.alloc (.cells #[.int .i64 e1.w, .int .i64 e1.i, .int .u64 e1.p, .int .i64 e1.t, .int .i64 e1.u, .int .i64 e1.n, .slice ay e1.b.length cy, .int .u64 e1.g] 47)) w5.heap.size 47 [.int .i64 e1.w, .int .i64 e1.i, .int .u64 e1.p, .int .i64 e1.t, .int .i64 e1.u, .int .i64 e1.n, .slice ay e1.b.length cy, .int .u64 e1.g]) := blk_new w5 [.int .i64 e1.w, .int .i64 e1.i, .int .u64 e1.p, .int .i64 e1.t, .int .i64 e1.u, .int .i64 e1.n, .slice ay e1.b.length cy, .int .u64 e1.g] 47
  have HY6 : Hid (Kp0 (w5.alloc (.cells #[.int .i64 e1.w, .int .i64 e1.i, .int .u64 e1.p, .int .i64 e1.t, .int .i64 e1.u, .int .i64 e1.n, .slice ay e1.b.length cy, .int .u64 e1.g] 47)) (newTo o5 w5 0) (.slice ay e1.b.length cy) e1.b) := HY1.out.mv (Mv.of_below (I := []) 0 (balloc (Below.refl _ _) _)) (by simp)
  have HNw : Hid (newTo o5 w5 0 w5.heap.size = 0) := newTo_new (Nat.le_refl _)
  generalize w5.alloc (.cells #[.int .i64 e1.w, .int .i64 e1.i, .int .u64 e1.p, .int .i64 e1.t, .int .i64 e1.u, .int .i64 e1.n, .slice ay e1.b.length cy, .int .u64 e1.g] 47) = w6 at *
  generalize newTo o5 w5 0 = o6 at *
  generalize w5.heap.size = n1 at *
  have HI2 : Hid (Calls Try.prog 19 #[ptr la, .int .u64 s, .agg #[.int .i64 2, .int .i64 1], .int .i64 0, .slice none 0 0] w6 fun r w' => ∃ e S' L' y o', r = .returned (.tuple #[ev e y, .int .i64 0]) ∧ e.p ≠ 0 ∧ L'.es.length = 2 ∧ L'.sum ≠ e.p ∧ checkM S' 1 p L' e1 = 8 ∧ EOk e ∧ G1 w w' o' b la s p S' L' ∧ Kp0 w' o' y e.b ∧ Mv [1, 3] w6 o6 w' o') := by
    show Calls _ _ _ _ _
    refine (HG6.out.issue (by have h1 := HLen.out; have h2 := HE1.out.len; omega) (i64_small (by omega) (by omega)) (i64_small (by omega) (by omega)) (i64_small (by omega) (by omega)) (l := []) (kp0_nil _ _) (by simp)).mono ?_
    rintro r w' ⟨e, k, S', L', y, o', rfl, h1, h2, h3, h4, h5⟩
    obtain ⟨a1, a2, a3, a4, a5⟩ := alive2 HE1.out h1
    have a6 := (h1.yes a1).ok
    subst a1
    exact ⟨e, S', L', y, o', rfl, a2, a3, a4, a5, a6, h3, h4, h5⟩
  have HOk1 : Hid (EOk e1 ∧ e1.b.length ≤ 1100) := ⟨HE1.out.ok, HE1.out.right.2.2.2.2.2.2⟩
  clear HG5 HG3 HG6 HI1
  go_upto_region 6 with (go_at_call 19; go_must (refine (Calls.mono HI2.out ?_); rintro r w7 ⟨e2, S3, L3, y2, o7, rfl, hp2, hl2, hs2, hc2, hok2, hG7, hy2, hm7⟩; obtain ⟨ay2, cy2, hyy⟩ := hy2.1.len; subst hyy; have HG7 : Hid (G1 w w7 o7 b la s p S3 L3) := hG7; have HX2 : Hid (e2.p ≠ 0 ∧ L3.es.length = 2 ∧ L3.sum ≠ e2.p ∧ checkM S3 1 p L3 e1 = 8) := ⟨hp2, hl2, hs2, hc2⟩; have HB7 : Hid (Blk w7 n1 47 [.int .i64 e1.w, .int .i64 e1.i, .int .u64 e1.p, .int .i64 e1.t, .int .i64 e1.u, .int .i64 e1.n, .slice ay e1.b.length cy, .int .u64 e1.g]) := (show Blk _ _ _ _ from HB6.out.block (hm7.block n1 HB6.out.lt (by rw [HNw.out]; simp))); have HY7 : Hid (Kp0 w7 o7 (.slice ay e1.b.length cy) e1.b) := HY6.out.mv hm7 (by simp); clear hp2 hl2 hs2 hc2 hok2 hG7 hy2 hm7; unfold ev))
  have HG8 : Hid (G1 w (w7.alloc (.cells #[.int .i64 e2.w, .int .i64 e2.i, .int .u64 e2.p, .int .i64 e2.t, .int .i64 e2.u, .int .i64 e2.n, .slice ay2 e2.b.length cy2, .int .u64 e2.g] 47)) (newTo o7 w7 0) b la s p S3 L3) := HG7.out.below (balloc (Below.refl _ _) _)
  have HB8 : Hid (Blk (w7.alloc (.cells #[.int .i64 e2.w, .int .i64 e2.i, .int .u64 e2.p, .int .i64 e2.t, .int .i64 e2.u, .int .i64 e2.n, .slice ay2 e2.b.length cy2, .int .u64 e2.g] 47)) w7.heap.size 47 [.int .i64 e2.w, .int .i64 e2.i, .int .u64 e2.p, .int .i64 e2.t, .int .i64 e2.u, .int .i64 e2.n, .slice ay2 e2.b.length cy2, .int .u64 e2.g]) := blk_new w7 [.int .i64 e2.w, .int .i64 e2.i, .int .u64 e2.p, .int .i64 e2.t, .int .i64 e2.u, .int .i64 e2.n, .slice ay2 e2.b.length cy2, .int .u64 e2.g] 47
  have HC8 : Hid (Blk (w7.alloc (.cells #[.int .i64 e2.w, .int .i64 e2.i, .int .u64 e2.p, .int .i64 e2.t, .int .i64 e2.u, .int .i64 e2.n, .slice ay2 e2.b.length cy2, .int .u64 e2.g] 47)) n1 47 [.int .i64 e1.w, .int .i64 e1.i, .int .u64 e1.p, .int .i64 e1.t, .int .i64 e1.u, .int .i64 e1.n, .slice ay e1.b.length cy, .int .u64 e1.g]) := HB7.out.alloc _
  have HY8 : Hid (Rd (w7.alloc (.cells #[.int .i64 e2.w, .int .i64 e2.i, .int .u64 e2.p, .int .i64 e2.t, .int .i64 e2.u, .int .i64 e2.n, .slice ay2 e2.b.length cy2, .int .u64 e2.g] 47)) (.slice ay e1.b.length cy) e1.b) := (show Rd _ _ _ from HY7.out.1.below (balloc (Below.refl _ _) _))
  generalize w7.alloc (.cells #[.int .i64 e2.w, .int .i64 e2.i, .int .u64 e2.p, .int .i64 e2.t, .int .i64 e2.u, .int .i64 e2.n, .slice ay2 e2.b.length cy2, .int .u64 e2.g] 47) = w8 at *
  generalize newTo o7 w7 0 = o8 at *
  generalize w7.heap.size = n2 at *
  have HHd : Hid (Calls Try.prog 33 #[ptr la] w8 fun r w' => r = .returned (.agg #[.int .i64 1, .int .i64 (L3.es.length : Int), .int .u64 L3.sum]) ∧ Below w8.heap.size w8 w') := headL_any HG8.out.log
  have HCk : Hid (∀ w', Below w8.heap.size w8 w' → Calls Try.prog 23 #[ptr la, .agg #[.int .i64 e1.w, .int .i64 e1.i, .int .u64 e1.p, .int .i64 e1.t, .int .i64 e1.u, .int .i64 e1.n, .slice ay e1.b.length cy, .int .u64 e1.g]] w' fun r w'' => r = .returned (.int .i64 8) ∧ Below w'.heap.size w' w'') := fun w' hb => by
    have := check_any ((HG8.out.below hb).asks HOk1.out.1 (HY8.out.below hb) (by have := HOk1.out.2; omega)) (by omega)
    rw [HX2.out.2.2.2] at this
    exact this
  have q1 : (e1.p == 0) = true := by simpa using HP1.out
  have q2 : (e2.p != 0) = true := by simpa using HX2.out.1
  have q3 : ((L3.es.length : Int) == 2) = true := by rw [HX2.out.2.1]; rfl
  have q4 : (L3.sum != e2.p) = true := by simpa using HX2.out.2.2.1
  have HBel : Hid (Below w.heap.size w w8) := HG8.out.bel
  go_wp2_with (first
    | (go_at_call 33; go_must (refine (Calls.mono HHd.out ?_); rintro r w9 ⟨rfl, hb9⟩; have X := (HC8.out.below hb9).alloc (.cells #[.int .i64 1, .int .i64 (L3.es.length : Int), .int .u64 L3.sum] 69); have Y := (HB8.out.below hb9).alloc (.cells #[.int .i64 1, .int .i64 (L3.es.length : Int), .int .u64 L3.sum] 69); have x0 := X.cell 0 _ rfl; have x1 := X.cell 1 _ rfl; have x2 := X.cell 2 _ rfl; have x3 := X.cell 3 _ rfl; have x4 := X.cell 4 _ rfl; have x5 := X.cell 5 _ rfl; have x6 := X.cell 6 _ rfl; have x7 := X.cell 7 _ rfl; have y0 := Y.cell 0 _ rfl; have y1 := Y.cell 1 _ rfl; have y2 := Y.cell 2 _ rfl; have y3 := Y.cell 3 _ rfl; have y4 := Y.cell 4 _ rfl; have y5 := Y.cell 5 _ rfl; have y6 := Y.cell 6 _ rfl; have y7 := Y.cell 7 _ rfl))
    | (go_at_call 23; go_must (refine (HCk.out _ (balloc hb9 _)).mono ?_; rintro r w10 ⟨rfl, hb10⟩)))
  go_ret
  exact ⟨rfl, bnext HBel.out (bnext (balloc hb9 _) hb10)⟩
end

section
set_option linter.unusedVariables false
set_option linter.unusedSimpArgs false
set_option synthInstance.maxSize 20000
set_option maxHeartbeats 2000000
set_option maxRecDepth 20000
open Go.RowKit Go.Maps

structure Opr where
  k : Int
  t : Int
  n : Int
  b : List Int
  N : Int
  f : Int
  e : Ent
def oc (q : Opr) (x y : Value) : List Value := [.int .i64 q.k, .int .i64 q.t, .int .i64 q.n, x, .int .i64 q.N, .int .i64 q.f, .int .i64 q.e.w, .int .i64 q.e.i, .int .u64 q.e.p, .int .i64 q.e.t, .int .i64 q.e.u, .int .i64 q.e.n, y, .int .u64 q.e.g]
def OprOk (w : World) (q : Opr × Value × Value) : Prop := I64 q.1.k ∧ I64 q.1.t ∧ I64 q.1.n ∧ I64 q.1.N ∧ I64 q.1.f ∧ EOk q.1.e ∧ Rd w q.2.1 q.1.b ∧ Rd w q.2.2 q.1.e.b
/-- A slice of steps. -/
def RowO (w : World) (v : Value) (qs : List (Opr × Value × Value)) : Prop :=
  (∀ q ∈ qs, OprOk w q) ∧ ∃ (a : Option Addr) (cap : Nat), v = .slice a qs.length cap ∧ qs.length ≤ cap ∧ cap ≤ maxLen ∧
    (0 < qs.length → ∃ b off, a = some ⟨b, off, none⟩ ∧ ∀ i q, qs[i]? = some q → ∀ j u, (oc q.1 q.2.1 q.2.2)[j]? = some u → w.cell? ⟨b, off + i * 14 + j, none⟩ = some u)
theorem RowO.len {w : World} {v : Value} {qs : List (Opr × Value × Value)} (h : RowO w v qs) : ∃ a cap, v = .slice a qs.length cap := ⟨h.2.choose, h.2.choose_spec.choose, h.2.choose_spec.choose_spec.1⟩
theorem RowO.at {w : World} {a : Option Addr} {n cap : Nat} {qs : List (Opr × Value × Value)} (h : RowO w (.slice a n cap) qs) {i : Nat} {q : Opr × Value × Value} (hi : qs[i]? = some q) :
    ∃ b off, a = some ⟨b, off, none⟩ ∧ ∀ w', Below w.heap.size w w' → ∀ j u, (oc q.1 q.2.1 q.2.2)[j]? = some u → w'.cell? ⟨b, off + i * 14 + j, none⟩ = some u := by
  obtain ⟨_, a', cap', e, h1, h2, h4⟩ := h
  obtain ⟨rfl, _, _⟩ : a = a' ∧ n = qs.length ∧ cap = cap' := by simpa using e
  have hlt : i < qs.length := (List.getElem?_eq_some_iff.1 hi).1
  obtain ⟨b, off, rfl, hc⟩ := h4 (by omega)
  refine ⟨b, off, rfl, fun w' hb j u hj => ?_⟩
  have h9 := hc i q hi j u hj
  rw [World.cell?_of_block (hb.block b (World.block_lt_of_cell? w _ h9))]
  exact h9
theorem RowO.cap {w : World} {a : Option Addr} {n cap : Nat} {qs : List (Opr × Value × Value)} (h : RowO w (.slice a n cap) qs) : n = qs.length ∧ n ≤ cap ∧ cap ≤ 9223372036854775807 := by
  obtain ⟨_, a', cap', e, h1, h2, h4⟩ := h
  obtain ⟨rfl, rfl, rfl⟩ : a = a' ∧ n = qs.length ∧ cap = cap' := by simpa using e
  exact ⟨rfl, h1, by unfold maxLen at h2; omega⟩

def shortB (q : Opr × Value × Value) : Bool := decide (q.1.b.length ≤ 1200) && decide (q.1.e.b.length ≤ 1200)
def lightB (n : Nat) (qs : List (Opr × Value × Value)) : Bool := decide (n ≤ 50) && decide (qs.length ≤ 40) && qs.all shortB

theorem light_any {w0 w : World} (hb : Below w0.heap.size w0 w) (da : Option Addr) (dn dc : Nat) (hdn : dn ≤ 9223372036854775807) {v : Value} {qs : List (Opr × Value × Value)} (hv : RowO w0 v qs) :
    Calls Try.prog 9 #[.slice da dn dc, v] w fun r w' => r = .returned (.bool (lightB dn qs)) ∧ w' = w := by
  obtain ⟨a, cap, rfl⟩ := hv.len
  have hcap := hv.cap
  have HV : Hid (RowO w0 (.slice a qs.length cap) qs) := hv
  have HB : Hid (Below w0.heap.size w0 w) := hb
  clear hv hb
  by_cases h50 : dn ≤ 50
  · by_cases h40 : qs.length ≤ 40
    · have hl : lightB dn qs = qs.all shortB := by unfold lightB; rw [decide_eq_true h50, decide_eq_true h40]; rfl
      rw [hl]
      clear hl
      have g1 : ¬ 50 < (dn : Int) := by omega
      have g2 : ¬ 40 < (qs.length : Int) := by omega
      go_enter Try.func9, Try.ntmps9
      go_wp2
      go_loopw [5] (fun i wr => ∃ k : Nat, i = .int .i64 k ∧ k ≤ qs.length ∧ wr = w ∧ Hid (∀ i q, i < k → qs[i]? = some q → shortB q = true)) (fun i _ => qs.length - (intOf i).toNat)
      case atStart => exact ⟨0, rfl, by omega, rfl, fun i q h => by omega⟩
      case round =>
        obtain ⟨k, rfl, hk, rfl, HS⟩ := hrel
        by_cases hk8 : k < qs.length
        · obtain ⟨q, hq⟩ : ∃ q, qs[k]? = some q := ⟨_, List.getElem?_eq_getElem hk8⟩
          obtain ⟨g, off, ea, hc⟩ := HV.out.at hq
          subst ea
          have hc' := hc _ HB.out
          have hok := HV.out.1 q (List.mem_of_getElem? hq)
          obtain ⟨_, _, _, _, _, _, hx, hy⟩ := hok
          have HNo : Hid (shortB q = false → qs.all shortB = false) := fun hs => by
            rw [List.all_eq_false]
            exact ⟨q, List.mem_of_getElem? hq, by rw [hs]; simp⟩
          have HYes : Hid (shortB q = true → ∀ i q, i < k + 1 → qs[i]? = some q → shortB q = true) := fun hs i q' hi hq' => by
            by_cases e : i = k
            · subst e
              rw [hq] at hq'
              cases hq'
              exact hs
            · exact HS.out i q' (by omega) hq'
          have hsb : shortB q = (decide (q.1.b.length ≤ 1200) && decide (q.1.e.b.length ≤ 1200)) := rfl
          rw [hsb] at HNo HYes
          obtain ⟨q, x, y⟩ := q
          dsimp only at *
          obtain ⟨ax, cx, rfl⟩ := hx.len
          obtain ⟨ay, cy, rfl⟩ := hy.len
          have d3 := hc' 3 _ rfl
          have d12 := hc' 12 _ rfl
          have bx := hx.cap
          have by' := hy.cap
          clear hc hc' hq hx hy hsb
          by_cases s1 : q.b.length ≤ 1200
          · have t1 : ¬ 1200 < (q.b.length : Int) := by omega
            by_cases s2 : q.e.b.length ≤ 1200
            · have t2 : ¬ 1200 < (q.e.b.length : Int) := by omega
              have HY := HYes.out (by rw [decide_eq_true s1, decide_eq_true s2]; rfl)
              have HY' : Hid (∀ i q, i < k + 1 → qs[i]? = some q → shortB q = true) := HY
              clear HY HYes HNo
              go_wp2
              go_roundw
              case rel => exact ⟨k + 1, by go_num, by omega, (by first | exact rfl | trivial), HY'⟩
              case measure => simp [intOf]; omega
            · have t2 : 1200 < (q.e.b.length : Int) := by omega
              have HN' : Hid (qs.all shortB = false) := HNo.out (by rw [decide_eq_false s2]; simp)
              clear HYes HNo s2
              go_wp2
              go_ret
              exact ⟨by rw [HN'.out]; rfl, rfl⟩
          · have t1 : 1200 < (q.b.length : Int) := by omega
            have HN' : Hid (qs.all shortB = false) := HNo.out (by rw [decide_eq_false s1]; rfl)
            clear HYes HNo s1
            go_wp2
            go_ret
            exact ⟨by rw [HN'.out]; rfl, rfl⟩
        · obtain rfl : k = qs.length := by omega
          have hall : Hid (qs.all shortB = true) := by
            show _ = true
            rw [List.all_eq_true]
            intro q hq
            obtain ⟨i, hi⟩ := List.mem_iff_getElem?.1 hq
            exact HS.out i q (List.getElem?_eq_some_iff.1 hi).1 hi
          go_wp2
          go_ret
          exact ⟨by rw [hall.out]; rfl, rfl⟩
    · have hl : lightB dn qs = false := by unfold lightB; rw [decide_eq_false h40]; simp
      rw [hl]
      have g1 : ¬ 50 < (dn : Int) := by omega
      have g2 : 40 < (qs.length : Int) := by omega
      clear hl h40
      go_enter Try.func9, Try.ntmps9
      go_wp2
      go_ret
      exact ⟨rfl, rfl⟩
  · have hl : lightB dn qs = false := by unfold lightB; rw [decide_eq_false h50]; simp
    rw [hl]
    have g1 : 50 < (dn : Int) := by omega
    clear hl h50
    go_enter Try.func9, Try.ntmps9
    go_wp2
    go_ret
    exact ⟨rfl, rfl⟩

theorem lightB_iff {n : Nat} {qs : List (Opr × Value × Value)} (h : lightB n qs = true) : n ≤ 50 ∧ qs.length ≤ 40 ∧ ∀ q ∈ qs, q.1.b.length ≤ 1200 ∧ q.1.e.b.length ≤ 1200 := by
  unfold lightB at h
  simp only [Bool.and_eq_true, decide_eq_true_eq, List.all_eq_true] at h
  refine ⟨h.1.1, h.1.2, fun q hq => ?_⟩
  have := h.2 q hq
  unfold shortB at this
  simpa using this
end

section
set_option linter.unusedVariables false
set_option linter.unusedSimpArgs false
set_option synthInstance.maxSize 20000
set_option maxHeartbeats 2000000
set_option maxRecDepth 20000
open Go.RowKit Go.Maps

theorem mv_undrew {I : List Nat} {w w' : World} {o o' : Nat → Nat} (h : Mv I w.drew o w' o') : Mv I w o w' o' := ⟨h.os, h.tape, h.output, h.size, h.ext, h.block⟩
theorem mv_drew {I : List Nat} {w w' : World} {o o' : Nat → Nat} (h : Mv I w o w' o') : Mv I w o w'.drew o' := ⟨h.os, h.tape, h.output, h.size, h.ext, h.block⟩
theorem mv_drewn {I : List Nat} (w : World) (o : Nat → Nat) : Mv I w o w.drew o := ⟨rfl, rfl, rfl, Nat.le_refl _, fun _ _ => rfl, fun _ _ _ => rfl⟩
theorem g1_drew {w0 w : World} {o : Nat → Nat} {b la : Nat} {s p : Int} {S : St} {L : Lg} (h : G1 w0 w o b la s p S L) : G1 w0 w.drew o b la s p S L := h.mvd (mv_drewn (I := []) w o) (by simp) (by simp) (by simp) (by simp)

theorem G1.accept {w0 w : World} {o : Nat → Nat} {b la : Nat} {s p : Int} {S : St} {L : Lg} (h : G1 w0 w o b la s p S L) (hN : S.rows.length + 2 < 1000000000) {e : Ent} {x : Value} (he : EOk e) (hx : Kp0 w o x e.b) (hlen : e.b.length ≤ 90000) :
    Calls Try.prog 25 #[ptr la, ev e x] w fun r w' => ∃ k S' L' o', r = .returned (.int .i64 k) ∧ (k = 0 → L'.es = L.es ++ [e]) ∧ (k ≠ 0 → S' = S ∧ L' = L) ∧ S'.rows.length ≤ S.rows.length + 1 ∧ Sub S S' ∧ G1 w0 w' o' b la s p S' L' ∧ Mv [1, 3] w o w' o' := by
  have hI := accept_any h.orc h.log (by omega) (by omega) he hx hlen (by omega)
  by_cases hk : checkM S 1 p L e = 0
  · obtain ⟨S', L', h1, h2⟩ := accept_ok h.key h.whole hN he hk
    rw [h1] at hI
    refine hI.mono ?_
    rintro r w' ⟨rfl, o', q1, q2, q3⟩
    exact ⟨0, S', L', o', rfl, fun _ => h2.es, (fun c => absurd rfl c), h2.len, h2.sub, ⟨q1, q2, h2.key, h2.whole, h.mv.trans (q3.widen (by simp))⟩, q3⟩
  · rw [accept_bad hk] at hI
    refine hI.mono ?_
    rintro r w' ⟨rfl, o', q1, q2, q3⟩
    exact ⟨_, S, L, o', rfl, (fun c => absurd c hk), fun _ => ⟨rfl, rfl⟩, Nat.le_succ _, Sub.refl _, ⟨q1, q2, h.key, h.whole, h.mv.trans (q3.widen (by simp))⟩, q3⟩

structure Step (w0 wr : World) (o : Nat → Nat) (b la : Nat) (s p : Int) (S : St) (L : Lg) (t n : Int) (l : List Int) (w5 : World) (o5 : Nat → Nat) (n5 : Nat) (e : Ent) (k : Int) (S' : St) (L' : Lg) (y : Value) : Prop where
  iss : Issued S p s L t 1 n l e k S' L'
  sub : Sub S S'
  g : G1 w0 w5 o5 b la s p S' L'
  box : Blk w5 n5 47 (ec e y)
  boxo : o5 n5 = 9
  kp : Kp0 w5 o5 y e.b
  mv : Mv [1, 3, 9] wr o w5 o5

theorem step_A {w0 wr w4 : World} {o o4 : Nat → Nat} {b la : Nat} {s p : Int} {S S' : St} {L L' : Lg} {t n k : Int} {l : List Int} {e : Ent} {y : Value} (h1 : Issued S p s L t 1 n l e k S' L') (h2 : Sub S S') (h3 : G1 w0 w4 o4 b la s p S' L') (h4 : Kp0 w4 o4 y e.b) (h5 : Mv [1, 3] wr o w4 o4) :
    Step w0 wr o b la s p S L t n l (w4.alloc (.cells (ec e y).toArray 47)) (newTo o4 w4 9) w4.heap.size e k S' L' y := by
  have m : Mv [] w4 o4 (w4.alloc (.cells (ec e y).toArray 47)) (newTo o4 w4 9) := Mv.of_below 9 (balloc (Below.refl _ _) _)
  exact ⟨h1, h2, h3.mvd m (by simp) (by simp) (by simp) (by simp), blk_new w4 _ 47, newTo_new (Nat.le_refl _), h4.mv m (by simp), (h5.widen (by simp)).trans (m.widen (by simp))⟩
theorem step_B {w0 wr w4 : World} {o o4 : Nat → Nat} {b la : Nat} {s p : Int} {S S' : St} {L L' : Lg} {t n k : Int} {l : List Int} {e : Ent} {y : Value} {ob : Obj} {z0 z1 z2 z3 z4 z5 z6 z7 : Value} (hz : ob = .cells #[z0, z1, z2, z3, z4, z5, z6, z7] 47) (h1 : Issued S p s L t 1 n l e k S' L') (h2 : Sub S S') (h3 : G1 w0 w4 o4 b la s p S' L') (h4 : Kp0 w4 o4 y e.b) (h5 : Mv [1, 3] (wr.alloc ob) (newTo o wr 9) w4 o4) :
    Step w0 wr o b la s p S L t n l ((((((((w4.setCell ⟨wr.heap.size, 0, none⟩ (.int .i64 e.w)).setCell ⟨wr.heap.size, 1, none⟩ (.int .i64 e.i)).setCell ⟨wr.heap.size, 2, none⟩ (.int .u64 e.p)).setCell ⟨wr.heap.size, 3, none⟩ (.int .i64 e.t)).setCell ⟨wr.heap.size, 4, none⟩ (.int .i64 e.u)).setCell ⟨wr.heap.size, 5, none⟩ (.int .i64 e.n)).setCell ⟨wr.heap.size, 6, none⟩ y).setCell ⟨wr.heap.size, 7, none⟩ (.int .u64 e.g)) o4 wr.heap.size e k S' L' y := by
  subst hz
  have hb0 := blk_new wr [z0, z1, z2, z3, z4, z5, z6, z7] 47
  have ho : newTo o wr 9 wr.heap.size = 9 := newTo_new (Nat.le_refl _)
  have hb4 : Blk w4 wr.heap.size 47 [z0, z1, z2, z3, z4, z5, z6, z7] := hb0.block (h5.block _ hb0.lt (by rw [ho]; simp))
  have ho4 : o4 wr.heap.size = 9 := by rw [h5.ext _ hb0.lt]; exact ho
  have G := grown_set8 w4 wr.heap.size (.int .i64 e.w) (.int .i64 e.i) (.int .u64 e.p) (.int .i64 e.t) (.int .i64 e.u) (.int .i64 e.n) y (.int .u64 e.g)
  have B := hb4.set8 (.int .i64 e.w) (.int .i64 e.i) (.int .u64 e.p) (.int .i64 e.t) (.int .i64 e.u) (.int .i64 e.n) y (.int .u64 e.g)
  have m5 : Mv [9] w4 o4 _ o4 := ⟨G.os, G.tape, G.output, G.size, fun _ _ => rfl, fun k hk hn => G.block k hk (fun e => hn (by have := Option.some.inj e; subst this; rw [ho4]; simp))⟩
  exact ⟨h1, h2, h3.mvd m5 (by simp) (by simp) (by simp) (by simp), B, ho4, h4.mv m5 (by simp), ((Mv.of_below 9 (balloc (Below.refl _ _) _)).trans (h5.widen (by simp))).trans (m5.widen (by simp))⟩
theorem step_zero {wr w4 : World} {o o4 : Nat → Nat} {ob : Obj} {z0 z1 z2 z3 z4 z5 z6 z7 : Value} (hz : ob = .cells #[z0, z1, z2, z3, z4, z5, z6, z7] 47) (h5 : Mv [1, 3] (wr.alloc ob) (newTo o wr 9) w4 o4) : Blk w4 wr.heap.size 47 [z0, z1, z2, z3, z4, z5, z6, z7] := by
  subst hz
  have hb0 := blk_new wr [z0, z1, z2, z3, z4, z5, z6, z7] 47
  exact hb0.block (h5.block _ hb0.lt (by rw [newTo_new (Nat.le_refl _)]; simp))

/-- A law's own list of entries: owner 7. -/
structure AllAt (w : World) (o : Nat → Nat) (v : Value) (ps : List (Ent × Value)) : Prop where
  row : w.ownsRow 0 47 8 v ps.length (flatE ps)
  own : ∀ k, v.ownBlock = some k → o k = 7
  ents : Ents w o ps
theorem AllAt.mv {I : List Nat} {w w' : World} {o o' : Nat → Nat} {v : Value} {ps : List (Ent × Value)} (h : AllAt w o v ps) (m : Mv I w o w' o') (h0 : 0 ∉ I) (h7 : 7 ∉ I) : AllAt w' o' v ps :=
  ⟨ownsRow_block h.row (fun k hk => m.block k (h.row.lt k hk).2 (by rw [h.own k hk]; exact h7)), fun k hk => by rw [m.ext k (h.row.lt k hk).2]; exact h.own k hk, h.ents.mv m h0⟩
theorem allAt_nil (w : World) (o : Nat → Nat) : AllAt w o (.slice none 0 0) [] := ⟨World.ownsRow_nil _ _ _ _, (fun k hk => by simp [Value.ownBlock] at hk), Ents.nil _ _⟩
/-- append to it. -/
theorem AllAt.add {w w' : World} {o : Nat → Nat} {v v' : Value} {ps : List (Ent × Value)} {e : Ent} {y : Value} (h : AllAt w o v ps) (he : EOk e) (hy : Kp0 w o y e.b) (ob : Obj) (hrow : w'.ownsRow 0 47 8 v' (ps ++ [(e, y)]).length (flatE (ps ++ [(e, y)]))) (hg : (w.alloc ob).grownBy w' v.ownBlock) (hwh : ∀ k, v'.ownBlock = some k → v.ownBlock = some k ∨ (w.alloc ob).heap.size ≤ k) :
    ∃ o', AllAt w' o' v' (ps ++ [(e, y)]) ∧ Mv [7] w o w' o' := by
  have m1 : Mv [7] w o (w.alloc ob) (newTo o w 0) := Mv.of_below 0 (balloc (Below.refl _ _) _)
  have h1 := h.mv (Mv.of_below (I := []) 0 (balloc (Below.refl w.heap.size w) ob)) (by simp) (by simp)
  have y1 := hy.mv (Mv.of_below (I := []) 0 (balloc (Below.refl w.heap.size w) ob)) (by simp)
  have m2 : Mv [7] (w.alloc ob) (newTo o w 0) w' (newTo (newTo o w 0) (w.alloc ob) 7) := Mv.of_turn 7 (turn_grown hg) (fun k hk _ => by
    have hk' : v.ownBlock = some k := by simpa using hk
    rw [h1.own k hk']; simp)
  refine ⟨_, ⟨hrow, fun k hk => ?_, (h1.ents.append (ents_one he y1)).mv m2 (by simp)⟩, m1.trans m2⟩
  rcases hwh k hk with r | r
  · rw [newTo_old (h1.row.lt k r).2]; exact h1.own k r
  · exact newTo_new r
end
end Go.Proofs.Yteedjdflojfhmaa
