/-
  The keys of this program's maps: strings, numbers, and the two structs of package check; the elements' zero values.
-/
import Derived.Test.YtjjnfnlkfojehaaMapM
import Derived.Test.YtjjnfnlkfojehaaProg
import Derived.DeepKeys4
namespace Go.Proofs.Ytjjnfnlkfojehaa
open Go.RowKit
open Go.Maps (Keyed)
set_option linter.unusedVariables false
set_option linter.unusedSimpArgs false

theorem lay0 : laidOutB Try.prog = true := by kernel_rfl
/-- A key of package check: the field's name; the value's type, number and text. -/
abbrev KeyV := ByteArray × Int × Int × ByteArray
/-- An end: the bond's name, the node. -/
abbrev EndV := ByteArray × Int
def encS (s : ByteArray) : Value := .string s
def encI (n : Int) : Value := .int .i64 n
def encQ (x : KeyV) : Value := .agg #[.string x.1, .int .i64 x.2.1, .int .i64 x.2.2.1, .string x.2.2.2]
def encE (x : EndV) : Value := .agg #[.string x.1, .int .i64 x.2]
theorem encS_inj : ∀ x y, encS x = encS y → x = y := fun x y h => by simpa [encS] using h
theorem encI_inj : ∀ x y, encI x = encI y → x = y := fun x y h => by simpa [encI] using h
theorem encQ_inj : ∀ x y, encQ x = encQ y → x = y := fun x y h => by
  obtain ⟨a, b, c, d⟩ := x
  obtain ⟨a', b', c', d'⟩ := y
  simpa [encQ] using h
theorem encE_inj : ∀ x y, encE x = encE y → x = y := fun x y h => by
  obtain ⟨a, b⟩ := x
  obtain ⟨a', b'⟩ := y
  simpa [encE] using h
theorem keyedS : Keyed Try.prog 9 := Go.Maps.string_keyed Try.underlying9
theorem keyedI : Keyed Try.prog 3 := Go.Maps.int_keyed Try.underlying3
theorem keyedK : Keyed Try.prog 106 := Keyed.of_law (deep_law_laid lay0 (m := 4) (by omega) (of_decide_eq_true (by kernel_rfl)) (by kernel_rfl) (by rw [Try.underlying106]))
theorem keyedE : Keyed Try.prog 83 := Keyed.of_law (deep_law_laid lay0 (m := 4) (by omega) (of_decide_eq_true (by kernel_rfl)) (by kernel_rfl) (by rw [Try.underlying83]))
theorem zero76 (w : World) : (zeroValue 76).run Try.prog w = .ok (.agg #[.slice none 0 0, .slice none 0 0, .slice none 0 0]) w := by kernel_rfl
theorem zero72 (w : World) : (zeroValue 72).run Try.prog w = .ok (.agg #[.string ⟨#[]⟩, .string ⟨#[]⟩, .string ⟨#[]⟩, .int .i64 0, .int .i64 0]) w := by kernel_rfl
theorem zero3 (w : World) : (zeroValue 3).run Try.prog w = .ok (.int .i64 0) w := by kernel_rfl
/-- It is a number of 64 bits. -/
def in64 (n : Int) : Prop := (Lit.int .i64 n).wf = true
theorem in64_of {n : Int} (h1 : -9223372036854775808 ≤ n) (h2 : n ≤ 9223372036854775807) : in64 n := by
  unfold in64
  have e1 : IntKind.i64.min = -9223372036854775808 := by decide
  have e2 : IntKind.i64.max = 9223372036854775807 := by decide
  simp [Lit.wf, e1, e2]
  omega
theorem keyS {s : ByteArray} (h : s.size ≤ maxLen) : ∃ l, keyOf Try.prog 9 (encS s) = some l := ⟨_, by
  unfold keyOf
  rw [Try.underlying9]
  simp only [encS, mapKey, Try.underlying9]
  rw [if_pos h]⟩
theorem keyI {n : Int} (h : in64 n) : ∃ l, keyOf Try.prog 3 (encI n) = some l := ⟨_, Go.Maps.keyOf_int_mk Try.underlying3 h⟩
theorem kt106 : Try.prog.keyType 106 = true := by kernel_rfl
theorem kt83 : Try.prog.keyType 83 = true := by kernel_rfl
theorem co106 : Try.prog.cellsOf 106 = 4 := by kernel_rfl
theorem co48 : Try.prog.cellsOf 48 = 3 := by kernel_rfl
theorem co83 : Try.prog.cellsOf 83 = 2 := by kernel_rfl
theorem co9 : Try.prog.cellsOf 9 = 1 := by kernel_rfl
theorem co3 : Try.prog.cellsOf 3 = 1 := by kernel_rfl
theorem tys : Try.prog.types.size + 1 = 162 := by kernel_rfl
theorem klS (d : Nat) {s : ByteArray} (h : s.size ≤ maxLen) : Try.prog.keyLits (d + 1) 9 [.string s] = some [.string s.data.toList] := by
  simp only [Program.keyLits, Try.underlying9]; rw [if_pos h]
theorem klI (d : Nat) {n : Int} (h : in64 n) : Try.prog.keyLits (d + 1) 3 [.int .i64 n] = some [.int .i64 n] := by
  unfold in64 at h
  simp only [Program.keyLits, Try.underlying3]; rw [if_pos ⟨trivial, h⟩]
theorem kl83 (d : Nat) {s : ByteArray} {n : Int} (h1 : s.size ≤ maxLen) (h2 : in64 n) : Try.prog.keyLits (d + 2) 83 [.string s, .int .i64 n] = some [.string s.data.toList, .int .i64 n] := by
  conv => lhs; unfold Program.keyLits
  rw [Try.underlying83]
  simp [co83, co9, co3, klS _ h1, klI _ h2]
theorem kl48 (d : Nat) {t n : Int} {s : ByteArray} (h1 : in64 t) (h2 : in64 n) (h3 : s.size ≤ maxLen) : Try.prog.keyLits (d + 2) 48 [.int .i64 t, .int .i64 n, .string s] = some [.int .i64 t, .int .i64 n, .string s.data.toList] := by
  conv => lhs; unfold Program.keyLits
  rw [Try.underlying48]
  simp [co48, co9, co3, klS _ h3, klI _ h2, klI _ h1]
theorem kl106 (d : Nat) {f s : ByteArray} {t n : Int} (h0 : f.size ≤ maxLen) (h1 : in64 t) (h2 : in64 n) (h3 : s.size ≤ maxLen) : Try.prog.keyLits (d + 3) 106 [.string f, .int .i64 t, .int .i64 n, .string s] = some [.string f.data.toList, .int .i64 t, .int .i64 n, .string s.data.toList] := by
  conv => lhs; unfold Program.keyLits
  rw [Try.underlying106]
  simp [co106, co48, co9, klS _ h0, kl48 _ h1 h2 h3]
theorem keyE {x : EndV} (h1 : x.1.size ≤ maxLen) (h2 : in64 x.2) : ∃ l, keyOf Try.prog 83 (encE x) = some l := by
  have hf : (encE x).formed Try.prog 83 = true := by simp [encE, Value.formed, Try.underlying83, co83]
  unfold keyOf
  rw [Try.underlying83, kt83, hf, tys]
  have := kl83 160 h1 h2
  simp only [Bool.and_self, if_true]
  rw [show (encE x).cells.toList = [.string x.1, .int .i64 x.2] from rfl, show (162 : Nat) = 160 + 2 from rfl, this]
  exact ⟨_, rfl⟩
theorem keyK {x : KeyV} (h1 : x.1.size ≤ maxLen) (h2 : in64 x.2.1) (h3 : in64 x.2.2.1) (h4 : x.2.2.2.size ≤ maxLen) : ∃ l, keyOf Try.prog 106 (encQ x) = some l := by
  have hf : (encQ x).formed Try.prog 106 = true := by simp [encQ, Value.formed, Try.underlying106, co106]
  unfold keyOf
  rw [Try.underlying106, kt106, hf, tys]
  have := kl106 159 h1 h2 h3 h4
  simp only [Bool.and_self, if_true]
  rw [show (encQ x).cells.toList = [.string x.1, .int .i64 x.2.1, .int .i64 x.2.2.1, .string x.2.2.2] from rfl, show (162 : Nat) = 159 + 3 from rfl, this]
  exact ⟨_, rfl⟩
end Go.Proofs.Ytjjnfnlkfojehaa
