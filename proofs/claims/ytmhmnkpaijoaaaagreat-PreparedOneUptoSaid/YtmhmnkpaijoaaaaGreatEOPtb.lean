import Derived.BigQuiet
import Derived.Deep.RegionHeld3
import Derived.Deep.RegionHeldLaw
import Derived.Deep.DeepCutAuto
import Derived.Test.YtmhmnkpaijoaaaaGreatEO02
namespace Go.Proofs.YtmhmnkpaijoaaaaGreat.Ptb
set_option linter.unusedSimpArgs false
open Go Go.RowKit Ck Cf Kw Ga Kf Pm Pe Pg Ik Lk Jm Ja Jb Jf Jg Jl Jn Kc Kj Pra Prb Pre Prn Prr Prv Prw Prx Pry Prz Psa Psb Psr Psu Psv Psx Pta
attribute [local go_sem ↓] Go.wp_at_zero Go.wp_at_succ
set_option linter.unusedVariables false
set_option maxRecDepth 100000
theorem seven_cell {W : World} {g : Nat} {t : TypeId} {p : Pd} {r : Pl2} (h : Blk W g t (PC p r)) : Sl W (fun _ => False) 7 (.slice (some ⟨g, 0, none⟩) 1 1) 1 (PC p r).toList := blk_sl (n := 1) h (fun h => h) rfl (by simp only [maxLen]; omega)
section
variable {B gc : Nat} {f view low : Int} {vb vv vsp : Value} {q p g p' g' : Nat} {z : Bz} {x : Vz} {sb sd sg : Value} {w : World} {v v' : Value} {l : List Pd} {rs : List Pl2} {W W' : World}
end
end Go.Proofs.YtmhmnkpaijoaaaaGreat.Ptb
