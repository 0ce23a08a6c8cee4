import Derived.BigQuiet
import Derived.Deep.RegionHeld3
import Derived.Deep.RegionHeldLaw
import Derived.Deep.DeepCutAuto
import Derived.Test.YtmhmnkpaijoaaaaGreatS12
namespace Go.Proofs.YtmhmnkpaijoaaaaGreat.Ptb
set_option linter.unusedSimpArgs false
open Go Go.RowKit Ck Cf Kw Ga Kf Pm Pe Pg Ik Lk Jm Ja Jb Jf Jg Jl Jn Kc Kj Pra Prb Pre Prn Prr Prv Prw Prx Pry Prz Psa Psb Psr Psu Psv Psx Pta
attribute [local go_sem ↓] Go.wp_at_zero Go.wp_at_succ
set_option linter.unusedVariables false
set_option maxRecDepth 100000
theorem info_prep : (Tryz.prog.info? 41).map (fun i => (i.zero, i.size, i.bytes)) = some (some (.agg Z7p), 7, 88) := by kernel_rfl
structure PV (B gc : Nat) (f view low : Int) (vb vv vsp : Value) (q p g p' g' : Nat) (z : Bz) (x : Vz) (sb sd sg : Value) (w : World) (v : Value) (l : List Pd) (rs : List Pl2) (W : World) : Prop where
  st : AtS W B q p g p' g' z x sb sd sg
  kc : Blk W gc 26 #[.int .i64 f, vb, vv, vsp, .int .i64 view, .int .i64 low]
  lc : gc < B
  hw : w.heap.size <= B
  hb : Below w.heap.size w W
  vs : VS B v l rs W
section
variable {B gc : Nat} {f view low : Int} {vb vv vsp : Value} {q p g p' g' : Nat} {z : Bz} {x : Vz} {sb sd sg : Value} {w : World} {v v' : Value} {l : List Pd} {rs : List Pl2} {W W' : World}
theorem PV.later (h : PV B gc f view low vb vv vsp q p g p' g' z x sb sd sg w v l rs W) (b : Below W.heap.size W W') : PV B gc f view low vb vv vsp q p g p' g' z x sb sd sg w v l rs W' :=
  ⟨h.st.later b, h.kc.below b h.kc.lt, h.lc, h.hw, h.hb.trans (b.mono h.hb.size), h.vs.later b⟩
theorem PV.push {P : Pd} {r : Pl2} (h : PV B gc f view low vb vv vsp q p g p' g' z x sb sd sg w v l rs W) (hp : PI W (fun k => v.ownBlock = some k) P r) (ha : Appended W B 41 7 v (l.length + 1) (flatP l rs ++ (PC P r).toList) v' W') :
    PV B gc f view low vb vv vsp q p g p' g' z x sb sd sg w v' (l ++ [P]) (rs ++ [r]) W' /\ PI W' (fun _ => False) P r /\ Ch (fun k => v.ownBlock = some k) W W' := by
  obtain ⟨h1, cc⟩ := h.vs.push hp ha
  have hlo : ∀ k, v.ownBlock = some k -> B <= k := fun k hk => (h.vs.row.lt k hk).1
  refine ⟨⟨h.st.ch (cc.mono (fun k _ hk => hlo k hk)), h.kc.ch cc (fun hx => by have := hlo _ hx; have := h.lc; omega), h.lc, h.hw, ch_under h.hb cc (fun k hk hx => by have := hlo _ hx; have := h.hw; omega) (Nat.le_refl _), h1⟩, (hp.ch cc (fun k _ hk => hk)).weaken (fun _ _ h => h.elim), cc⟩
def PX (B gc : Nat) (f view low : Int) (vb vv vsp : Value) (q p g p' g' : Nat) (z : Bz) (x : Vz) (sb sd sg : Value) (w : World) (v : Value) (l : List Pd) (rs : List Pl2) (gb : Nat) (P : Pd) (r : Pl2) (W : World) : Prop :=
  PV B gc f view low vb vv vsp q p g p' g' z x sb sd sg w v l rs W /\ Blk W gb 41 (PC P r) /\ PI W (fun _ => False) P r
theorem PX.later {gb : Nat} {P : Pd} {r : Pl2} (h : PX B gc f view low vb vv vsp q p g p' g' z x sb sd sg w v l rs gb P r W) (b : Below W.heap.size W W') : PX B gc f view low vb vv vsp q p g p' g' z x sb sd sg w v l rs gb P r W' :=
  ⟨h.1.later b, h.2.1.below b h.2.1.lt, h.2.2.after b⟩
theorem PX.cells {gb : Nat} {P : Pd} {r : Pl2} (h : PX B gc f view low vb vv vsp q p g p' g' z x sb sd sg w v l rs gb P r W) : W.cell? ⟨q, 0, none⟩ = some (.pointer (some ⟨p, 0, none⟩)) /\ W.cell? ⟨q, 1, none⟩ = some (.pointer (some ⟨g, 0, none⟩)) /\ W.cell? ⟨q, 2, none⟩ = some (.pointer (some ⟨p', 0, none⟩)) /\ W.cell? ⟨q, 3, none⟩ = some (.pointer (some ⟨g', 0, none⟩)) /\ W.cell? ⟨gc, 0, none⟩ = some (.int .i64 f)
    /\ W.cell? ⟨gb, 0, none⟩ = some (.int .i64 P.view) /\ W.cell? ⟨gb, 1, none⟩ = some (.int .i64 P.seq) /\ W.cell? ⟨gb, 2, none⟩ = some (.int .i64 P.dig) /\ W.cell? ⟨gb, 3, none⟩ = some (.int .i64 P.first.1) /\ W.cell? ⟨gb, 4, none⟩ = some (.int .i64 P.first.2) /\ W.cell? ⟨gb, 5, none⟩ = some (.slice r.1.1 P.signs.length r.1.2) /\ W.cell? ⟨gb, 6, none⟩ = some (.slice r.2.1 P.batch.length r.2.2) :=
  ⟨h.1.st.st.cell 0, h.1.st.st.cell 1, h.1.st.st.cell 2, h.1.st.st.cell 3, h.1.kc.cell 0, h.2.1.cell 0, h.2.1.cell 1, h.2.1.cell 2, h.2.1.cell 3, h.2.1.cell 4, h.2.1.cell 5, h.2.1.cell 6⟩
end
end Go.Proofs.YtmhmnkpaijoaaaaGreat.Ptb
