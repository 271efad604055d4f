/-
  tendrillaw11.VtreeChecks: true, whatever the tree.
-/
import Derived.Test.YtlkdklpglmglkaaWeigh
import Derived.Deep.RegionHeld3
namespace Go.Proofs.Ytlkdklpglmglkaa
open Go.RowKit Go.Sort
set_option linter.unusedVariables false
set_option maxRecDepth 100000
def leafNV : NV := ⟨none, 0, none, 0⟩
def TrueB (w : World) (e : Ending) (w' : World) : Prop := e = .returned (.bool true) ∧ Below w.heap.size w w'
theorem ok_len {t : Tr} (h : (seenL aloneT t).2 = 0) : itemsL t = (seenL aloneT t).1 := by
  obtain ⟨h1, h2, h3, h4, h5⟩ := visit_below aloneT t 1 (-1) [] (Clean.nil aloneT)
  exact h4 h
theorem keepS {w1 W W' : World} {b : Nat} {t : Tr} {x : NV} (hb : Below W.heap.size W W')
    (h : W.cell? ⟨b, 0, none⟩ = some (.string t.tag) ∧ W.cell? ⟨b, 1, none⟩ = some (.string t.key) ∧ W.cell? ⟨b, 2, none⟩ = some (.string t.text) ∧ W.cell? ⟨b, 3, none⟩ = some (.slice x.A t.as.length x.ca) ∧ W.cell? ⟨b, 4, none⟩ = some (.slice x.K t.kids.length x.ck) ∧ RowKit.Hid (Below w1.heap.size w1 W)) :
    W'.cell? ⟨b, 0, none⟩ = some (.string t.tag) ∧ W'.cell? ⟨b, 1, none⟩ = some (.string t.key) ∧ W'.cell? ⟨b, 2, none⟩ = some (.string t.text) ∧ W'.cell? ⟨b, 3, none⟩ = some (.slice x.A t.as.length x.ca) ∧ W'.cell? ⟨b, 4, none⟩ = some (.slice x.K t.kids.length x.ck) ∧ RowKit.Hid (Below w1.heap.size w1 W') := by
  have hk := kept_below hb (fun _ => False)
  have nf : ¬ False := fun h => h
  obtain ⟨h0, h1, h2, h3, h4, h5⟩ := h
  exact ⟨hk.cellOf h0 nf, hk.cellOf h1 nf, hk.cellOf h2 nf, hk.cellOf h3 nf, hk.cellOf h4 nf, Lib.hid (h5.out.trans (hb.mono h5.out.size))⟩
end Go.Proofs.Ytlkdklpglmglkaa
