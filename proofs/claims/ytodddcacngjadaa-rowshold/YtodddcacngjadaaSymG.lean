/-
  slices.symMergeCmpFunc, whole; slices.stableCmpFunc and slices.SortStableFunc, at elements of k cells, at most a thousand of them: what is sorted is a permutation, in order.
-/
import Derived.Test.YtodddcacngjadaaSymF
import Derived.Shelf.SlSortCmp.PdqK
namespace Go.Proofs.Ytodddcacngjadaa
open Go.Shelf Go.RowKit Go.Lib Go.Sort
set_option linter.unusedVariables false
set_option linter.unusedSimpArgs false
section
variable {P : Program} {k : Nat} {α : Type} [Inhabited α]

theorem symMerge_all (L : SymL P k) (enc : α → List Value) (cf : α → α → Int) (hO : SWO (ltOf cf)) (g : Nat) (cb : Array Value) (eg : ∀ args w, (callFunc g args).run P w = .ok (.enter g args) w) (blk off cap : Nat) (d0 : Array α) (w0 : World) (hcmp : CmpLays P g cb enc k cf blk off d0.size w0) (R : RowK enc k w0 blk off d0) :
    ∀ (N a m b : Nat) (d : Array α) (w : World), b - a < N → a < m → m < b → b ≤ d.size → d0.size = d.size → d.size ≤ 1000 → SWK enc k w0 blk off d w → SortedIn (ltOf cf) a m d → SortedIn (ltOf cf) m b d →
      Calls P 38 #[.slice (some ⟨blk, off, none⟩) d.size cap, .int .i64 a, .int .i64 m, .int .i64 b, .func (.func g) #[] cb] w fun e w' => e = .returned (.tuple #[]) ∧ ∃ d' : Array α, d'.size = d.size ∧ PermIn a b d d' ∧ SortedIn (ltOf cf) a b d' ∧ SWK enc k w0 blk off d' w'
  | 0, a, m, b, d, w, hN, _, _, _, _, _, _, _, _ => absurd hN (Nat.not_lt_zero _)
  | N + 1, a, m, b, d, w, hN, ham, hmb, hb, hs, hsz, S, hSa, hSb => by
    by_cases h1 : m = a + 1
    · subst h1
      have := sym_one L enc cf hO g cb eg blk off cap d0 w0 hcmp R a b d w hmb hb hs hsz S hSb
      rw [show ((a + 1 : Nat) : Int) = (a : Int) + 1 by simp]
      exact this
    · by_cases h2 : b = m + 1
      · subst h2
        have := sym_last L enc cf hO g cb eg blk off cap d0 w0 hcmp R a m d w (by omega) hb hs hsz S hSa
        rw [show ((m + 1 : Nat) : Int) = (m : Int) + 1 by simp]
        exact this
      · have hrec : ∀ (a' m' b' : Nat) (d1 : Array α) (w1 : World), a ≤ a' → b' ≤ b → b' - a' < b - a → a' < m' → m' < b' → d1.size = d.size → SWK enc k w0 blk off d1 w1 → SortedIn (ltOf cf) a' m' d1 → SortedIn (ltOf cf) m' b' d1 →
            Calls P 38 #[.slice (some ⟨blk, off, none⟩) d.size cap, .int .i64 a', .int .i64 m', .int .i64 b', .func (.func g) #[] cb] w1 fun e w' => e = .returned (.tuple #[]) ∧ ∃ d' : Array α, d'.size = d.size ∧ PermIn a' b' d1 d' ∧ SortedIn (ltOf cf) a' b' d' ∧ SWK enc k w0 blk off d' w' := fun a' m' b' d1 w1 _ hb' hlt h1 h2 hz hS q1 q2 => by
          have := symMerge_all L enc cf hO g cb eg blk off cap d0 w0 hcmp R N a' m' b' d1 w1 (by omega) h1 h2 (by omega) (by omega) (by omega) hS q1 q2
          rw [hz] at this
          exact this
        by_cases hm : (a + b) / 2 < m
        · exact sym_hi L enc cf hO g cb eg blk off cap d0 w0 hcmp R a m b _ d w (by omega) (by omega) hb rfl hm hs hsz S hSa hSb hrec
        · exact sym_lo L enc cf hO g cb eg blk off cap d0 w0 hcmp R a m b _ d w (by omega) (by omega) hb rfl (by omega) hs hsz S hSa hSb hrec
end
end Go.Proofs.Ytodddcacngjadaa
