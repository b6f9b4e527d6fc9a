/-
  What each change does, in one word each.
-/
import Derived.Test.YtkmkhadacppdnaaDoorChD
import Derived.Test.YtkmkhadacppdnaaDoorChJ
import Derived.Test.YtkmkhadacppdnaaDoorChL
namespace Go.Proofs.YtkmkhadacppdnaaDoor
open Go.RowKit
set_option linter.unusedVariables false
set_option linter.unusedSimpArgs false

/-- What a change of a schema of the call's own leaves. -/
def WrP (w : World) (base p : Nat) (ex : Int) (K : List Kd) (B : List Bd) (e : Ending) (w' : World) : Prop :=
  e = .returned (errV ex) ∧ (ex = 0 → ∃ M, OSc w' base p M B ∧ M.map kq3 = K.map kq3) ∧ Below base w w'
theorem WrP.no {w w' : World} {base p : Nat} {ex r : Int} {K : List Kd} {B : List Bd} {e : Ending} (hbase : base ≤ w.heap.size) (hr : r = ex) (hne : ¬ ex = 0) (h : e = .returned (errV r) ∧ Below w.heap.size w w') : WrP w base p ex K B e w' :=
  ⟨by rw [← hr]; exact h.1, fun h0 => absurd h0 hne, h.2.mono hbase⟩
theorem WrP.yes {w w' : World} {base p : Nat} {ex : Int} {K : List Kd} {B : List Bd} {e : Ending} (hr : ex = 0) (h : e = .returned (errV 0) ∧ (∃ M, OSc w' base p M B ∧ M.map kq3 = K.map kq3) ∧ Below base w w') : WrP w base p ex K B e w' :=
  ⟨by rw [hr]; exact h.1, fun _ => h.2.1, h.2.2⟩

theorem good_of {L : List Kd} {B : List Bd} (h : (sErr L B).2 = 0) : Good L ∧ L.length ≤ 12 ∧ B.length ≤ 12 := by
  obtain ⟨h1, _, h3⟩ := sErr_good.1 h
  obtain ⟨g1, g2⟩ := ksErr_good.1 h1
  exact ⟨g1, g2, h3⟩
theorem dropKind_any {w : World} {base p : Nat} {L : List Kd} {B : List Bd} (h : OSc w base p L B) (hbase : base ≤ w.heap.size) (hs : (sErr L B).2 = 0) (n : Nm) :
    Calls Tryd.prog 25 #[.pointer (some ⟨p, 0, none⟩), .string (bs n)] w (WrP w base p (e2 L B n) (L.eraseIdx (nmAt L n)) B) := by
  obtain ⟨hG, hl, hb⟩ := good_of hs
  by_cases hx : idxK n L 0 = -1
  · have e : e2 L B n = 5 := by unfold e2; rw [if_pos hx]
    exact (dropKind_no h hl n hx).mono fun e' w' h' => WrP.no hbase e.symm (by rw [e]; decide) h'
  · by_cases hu : usK L n = true
    · have e : e2 L B n = 6 := by unfold e2; rw [if_neg hx, if_pos hu]
      exact (dropKind_us h hl hG.small hb n hx (.inl hu)).mono fun e' w' h' => WrP.no hbase e.symm (by rw [e]; decide) h'
    · have hu' : usK L n = false := by simpa using hu
      by_cases hv : usB B n = true
      · have e : e2 L B n = 6 := by unfold e2; rw [if_neg hx, if_neg hu, if_pos hv]
        exact (dropKind_us h hl hG.small hb n hx (.inr ⟨hu', hv⟩)).mono fun e' w' h' => WrP.no hbase e.symm (by rw [e]; decide) h'
      · have e : e2 L B n = 0 := by unfold e2; rw [if_neg hx, if_neg hu, if_neg hv]
        exact (dropKind_yes h hbase hl hG.small hb n hx hu' (by simpa using hv)).mono fun e' w' h' => WrP.yes e ⟨h'.1, ⟨_, h'.2.1, rfl⟩, h'.2.2⟩
theorem addField_any {w : World} {base p : Nat} {L : List Kd} {B : List Bd} (h : OSc w base p L B) (hbase : base ≤ w.heap.size) (hs : (sErr L B).2 = 0) (c : Ch) (hc : ChIs w c) (hz : ChSz c) :
    Calls Tryd.prog 26 #[.pointer (some ⟨p, 0, none⟩), c.one] w (WrP w base p (e3 L c) (setFs L c.nm (insA (fdsAt L c.nm) c.fd)) B) := by
  obtain ⟨hG, hl, hb⟩ := good_of hs
  by_cases hx : idxK c.nm L 0 = -1
  · have e : e3 L c = 5 := by unfold e3; rw [if_pos hx]
    exact (addField_none h hl c hc hx).mono fun e' w' h' => WrP.no hbase e.symm (by rw [e]; decide) h'
  · obtain ⟨j, q, hj, hat, hq, _⟩ := nmAt_has hx
    rw [fdsAt_eq hat hq]
    by_cases hf : fnd c.fd.nm q.fs = true
    · have e : e3 L c = 7 := by unfold e3; rw [if_neg hx, fdsAt_eq hat hq, if_pos hf]
      exact (addField_has h hl hG c hc hj hq hf).mono fun e' w' h' => WrP.no hbase e.symm (by rw [e]; decide) h'
    · have hf' : fnd c.fd.nm q.fs = false := by simpa using hf
      have e : e3 L c = adE c.fd c.vt c.vn c.vs := by unfold e3; rw [if_neg hx, fdsAt_eq hat hq, if_neg hf]
      by_cases ha : adE c.fd c.vt c.vn c.vs = 0
      · exact (addField_ok h hbase hl hG c hc hz.2.2.2.2.1 hj hat hq hf' ha).mono fun e' w' h' => WrP.yes (e.trans ha) h'
      · exact (addField_bad h hl hG c hc hz.2.2.2.2.1 hj hq hf' ha).mono fun e' w' h' => WrP.no hbase e.symm (by rw [e]; exact ha) h'
theorem e4_cases (L : List Kd) (n f : Nm) : e4 L n f = 0 ∨ e4 L n f = 5 := by
  unfold e4
  split
  · exact .inr rfl
  · split
    · exact .inl rfl
    · exact .inr rfl
theorem dropField_any {w : World} {base p : Nat} {L : List Kd} {B : List Bd} (h : OSc w base p L B) (hbase : base ≤ w.heap.size) (hs : (sErr L B).2 = 0) (c : Ch) (hc : ChIs w c) :
    Calls Tryd.prog 27 #[.pointer (some ⟨p, 0, none⟩), c.one] w (WrP w base p (e4 L c.nm c.fd.nm) (setFs L c.nm ((fdsAt L c.nm).eraseIdx (lo c.fd.nm (fdsAt L c.nm)))) B) := by
  obtain ⟨hG, hl, hb⟩ := good_of hs
  rcases e4_cases L c.nm c.fd.nm with e | e
  · exact (dropField_yes h hbase hl hG c hc e).mono fun e' w' h' => WrP.yes e h'
  · exact (dropField_no h hl hG c hc e).mono fun e' w' h' => WrP.no hbase e.symm (by rw [e]; decide) h'
theorem renameField_any {w : World} {base p : Nat} {L : List Kd} {B : List Bd} (h : OSc w base p L B) (hbase : base ≤ w.heap.size) (hs : (sErr L B).2 = 0) (c : Ch) (hc : ChIs w c) (hz : ChSz c) :
    Calls Tryd.prog 29 #[.pointer (some ⟨p, 0, none⟩), c.one] w (WrP w base p (e7 L c.nm c.fd.nm c.tn) (setFs L c.nm (rnF (fdsAt L c.nm) c.fd.nm c.tn)) B) := by
  obtain ⟨hG, hl, hb⟩ := good_of hs
  rcases e4_cases L c.nm c.fd.nm with e | e
  · by_cases hn : nErr c.tn = 0
    · by_cases hf : fnd c.tn (fdsAt L c.nm) = true
      · have e' : e7 L c.nm c.fd.nm c.tn = 7 := by unfold e7; rw [if_pos e, if_pos hn, if_pos hf]
        exact (renameField_has h hl hG c hc hz.2.2.2.2.2 e hn hf).mono fun _ w' h' => WrP.no hbase e'.symm (by rw [e']; decide) h'
      · have e' : e7 L c.nm c.fd.nm c.tn = 0 := by unfold e7; rw [if_pos e, if_pos hn, if_neg hf]
        exact (renameField_ok h hbase hl hG c hc hz.2.2.2.2.2 e hn (by simpa using hf)).mono fun _ w' h' => WrP.yes e' h'
    · have e' : e7 L c.nm c.fd.nm c.tn = nErr c.tn := by unfold e7; rw [if_pos e, if_neg hn]
      exact (renameField_bad h hl hG c hc hz.2.2.2.2.2 e hn).mono fun _ w' h' => WrP.no hbase e'.symm (by rw [e']; exact hn) h'
  · have e' : e7 L c.nm c.fd.nm c.tn = 5 := by unfold e7; rw [e]; rfl
    exact (renameField_no h hl hG c hc e).mono fun _ w' h' => WrP.no hbase e'.symm (by rw [e']; decide) h'
theorem dropBond_any {w : World} {base p : Nat} {L : List Kd} {B : List Bd} (h : OSc w base p L B) (hbase : base ≤ w.heap.size) (hs : (sErr L B).2 = 0) (n : Nm) :
    Calls Tryd.prog 28 #[.pointer (some ⟨p, 0, none⟩), .string (bs n)] w (WrP w base p (e6 B n) L (B.eraseIdx (bAt B n))) := by
  obtain ⟨hG, hl, hb⟩ := good_of hs
  by_cases hx : idxB n B 0 = -1
  · have e : e6 B n = 5 := by unfold e6; rw [if_pos hx]
    exact (dropBond_no h hb n hx).mono fun e' w' h' => WrP.no hbase e.symm (by rw [e]; decide) h'
  · have e : e6 B n = 0 := by unfold e6; rw [if_neg hx]
    exact (dropBond_yes h hbase hb n hx).mono fun e' w' h' => WrP.yes e ⟨h'.1, ⟨_, h'.2.1, rfl⟩, h'.2.2⟩
theorem setRange_any {w : World} {base p : Nat} {L : List Kd} {B : List Bd} (h : OSc w base p L B) (hbase : base ≤ w.heap.size) (hs : (sErr L B).2 = 0) (c : Ch) (hc : ChIs w c) :
    Calls Tryd.prog 30 #[.pointer (some ⟨p, 0, none⟩), c.one] w (WrP w base p (e6 B c.nm) L (setR B c.nm c.bd.mn c.bd.mx)) := by
  obtain ⟨hG, hl, hb⟩ := good_of hs
  by_cases hx : idxB c.nm B 0 = -1
  · have e : e6 B c.nm = 5 := by unfold e6; rw [if_pos hx]
    exact (setRange_no h hb c hc hx).mono fun e' w' h' => WrP.no hbase e.symm (by rw [e]; decide) h'
  · have e : e6 B c.nm = 0 := by unfold e6; rw [if_neg hx]
    exact (setRange_yes h hbase hb c hc hx).mono fun e' w' h' => WrP.yes e ⟨h'.1, ⟨_, h'.2.1, rfl⟩, h'.2.2⟩
end Go.Proofs.YtkmkhadacppdnaaDoor
