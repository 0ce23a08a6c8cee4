import Derived.Test.YtmhmnkpaijoaaaaGreatEHPtf
namespace Go.Proofs.YtmhmnkpaijoaaaaGreat.Ptz
set_option linter.unusedSimpArgs false
open Go Go.RowKit Ck Kw Ga Pra Prb Pre Prn Prr Psx Pta Ptd Pte Pua Pub
set_option linter.unusedVariables false
set_option maxRecDepth 100000
theorem hokl : ∀ m : List Pd, m.length <= 1599289640355 -> (∀ p ∈ m, okV p) -> oklT m := fun m h1 h2 => ⟨h1, h2⟩
end Go.Proofs.YtmhmnkpaijoaaaaGreat.Ptz
