/-
  Apply of the program.
-/
import Derived.Test.YtjbpfhnagiacmaaGreatTrn3
import Derived.Laws.EntriesVeiled
namespace Go.Proofs.YtjbpfhnagiacmaaGreat
set_option linter.unusedVariables false
set_option linter.unusedSimpArgs false
set_option synthInstance.maxSize 20000
set_option maxHeartbeats 2000000
set_option maxRecDepth 20000
open Go.RowKit Go.Maps
def turnK (S : Sm) (c : Cg) : Int := if c.k = 1 then invK S.l c.w else if c.k = 2 then revK S.l c.w else begK S.l S.e c
def turnS (S : Sm) (c : Cg) : Sm := if c.k = 1 then ⟨invL S.l S.e c, S.e⟩ else if c.k = 2 then ⟨revL S.l S.e c, S.e⟩ else ⟨S.l, if begK S.l S.e c = 0 then S.e + 1 else S.e⟩
def zsm : Sm := ⟨[], 0⟩
def applyM (S : Sm) (c : Cg) : Sm × Int := if rightB c = true then (if turnK S c = 0 then (turnS S c, 0) else (zsm, turnK S c)) else (zsm, 1)
theorem right_kind {c : Cg} (h : rightB c = true) : c.k = 1 ∨ c.k = 2 ∨ c.k = 3 := by
  unfold rightB at h
  split at h
  · exact .inl (by assumption)
  · split at h
    · exact .inr (.inl (by assumption))
    · split at h
      · exact .inr (.inr (by assumption))
      · cases h
def Turns (g : Nat) (S : Sm) (c : Cg) (a b : Value) : Prop := ∀ (w : World) (B tb : Nat) (lv : Value) (qs : List Wq), TrnAt w B tb lv S.e c a b S.l → CgAt w c a b qs → B ≤ w.heap.size →
  Calls Tryz.prog g #[ptr tb] w fun r w' => ∃ lv', r = .returned (.int .i64 (turnK S c)) ∧ TrnAt w' B tb lv' (turnS S c).e c a b (turnS S c).l ∧ Below B w w'
theorem slices_of {w : World} {c : Cg} {a b : Value} {qs : List Wq} (h : CgAt w c a b qs) : (∃ x n q, a = .slice x n q) ∧ ∃ x n q, b = .slice x n q := by
  obtain ⟨x, q, rfl⟩ := h.row.len
  obtain ⟨y, p, rfl⟩ := h.old.len
  exact ⟨⟨_, _, _, rfl⟩, _, _, _, rfl⟩
theorem turns33 {S : Sm} {c : Cg} {a b : Value} (hk : c.k = 1) (hl : S.l.length ≤ 900) (he : EOk S.e) : Turns 64 S c a b := fun w B tb lv qs h hc hB => by
  have := invite33 h hl hB he (slices_of hc)
  unfold turnK turnS
  rw [if_pos hk, if_pos hk]
  exact this
theorem turns34 {S : Sm} {c : Cg} {a b : Value} (hk : c.k = 2) (hl : S.l.length ≤ 900) : Turns 65 S c a b := fun w B tb lv qs h hc hB => by
  unfold turnK turnS
  rw [if_neg (by omega), if_pos hk, if_neg (by omega), if_pos hk]
  exact (revoke34 h (by omega) hB (slices_of hc)).mono fun r w' h' => ⟨lv, h'⟩
theorem turns35 {S : Sm} {c : Cg} {a b : Value} (hk : c.k = 3) (hl : S.l.length ≤ 900) (he : EOk S.e) : Turns 66 S c a b := fun w B tb lv qs h hc hB => by
  unfold turnK turnS
  rw [if_neg (by omega), if_neg (by omega), if_neg (by omega), if_neg (by omega)]
  refine (begin35 h.blk h.own.rd hc (by omega) h.tb hB he).mono ?_
  rintro r w' ⟨rfl, hb, hbl, hoth⟩
  refine ⟨lv, rfl, ⟨hb, ⟨fun _ _ => trivial, ownsRow_block h.own.2 (fun k hk' => hoth k (h.own.lt k hk').2 (fun e => h.ne (by rw [← e]; exact hk')))⟩, h.ne, h.tb⟩, hbl⟩
theorem blk3_0 (w : World) (c d f : List Value) (e1 e2 e3 : TypeId) : Blk (((w.alloc (.cells c.toArray e1)).alloc (.cells d.toArray e2)).alloc (.cells f.toArray e3)) w.heap.size e1 c := (blkM_0 w c d e1 e2).alloc _
theorem blk3_1 (w : World) (c d f : List Value) (e1 e2 e3 : TypeId) : Blk (((w.alloc (.cells c.toArray e1)).alloc (.cells d.toArray e2)).alloc (.cells f.toArray e3)) (w.heap.size + 1) e2 d := (blkM_1 w c d e1 e2).alloc _
theorem blk3_2 (w : World) (c d f : List Value) (e1 e2 e3 : TypeId) : Blk (((w.alloc (.cells c.toArray e1)).alloc (.cells d.toArray e2)).alloc (.cells f.toArray e3)) (w.heap.size + 1 + 1) e3 f := by
  have := heap_alloc_new ((w.alloc (.cells c.toArray e1)).alloc (.cells d.toArray e2)) (.cells f.toArray e3)
  simpa [Blk] using this
end Go.Proofs.YtjbpfhnagiacmaaGreat
