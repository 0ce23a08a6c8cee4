import Derived.Test.YtmhmnkpaijoaaaaGreatSPtb
import Derived.Test.YtmhmnkpaijoaaaaGreatSPsf
namespace Go.Proofs.YtmhmnkpaijoaaaaGreat.Ptx
set_option linter.unusedSimpArgs false
set_option linter.unusedVariables false
open Go Go.RowKit Psa Prz Psf Psx
theorem begunC : BegunC := fun wi f view low vb vv vs qss vts h =>
  (begun_any wi f view low vb vv vs qss vts h).mono fun e w' h => by
    obtain ⟨w, hb, q, p, g, p', g', vb, vd, vs, vals, vq, lq, c, rfl, hg⟩ := h
    exact begunC_of hb hg
end Go.Proofs.YtmhmnkpaijoaaaaGreat.Ptx
namespace Go.Proofs.YtmhmnkpaijoaaaaGreat.Ptz
set_option linter.unusedSimpArgs false
open Go Go.RowKit Ck Kw Ga Pra Prb Pre Prn Prr Psx Pta Ptd Pte Pua Pub
set_option linter.unusedVariables false
set_option maxRecDepth 100000
def okT (l : List Pd) (x : Pd) : Prop := okV x /\ l.length <= 1599289640354
def oklT (m : List Pd) : Prop := m.length <= 1599289640355 /\ ∀ p ∈ m, okV p
theorem HBG : BegunC := Ptx.begunC
theorem HV : ValidC := fun w S X p g L G f x r h hp hx _ => Puv.valid_any w S X p g L G f x r h hp hx
theorem HA : AboveC := fun w S X p g L G f view low v l h hp hx hl _ => Puw.above_any w S X p g L G f view low v l h hp hx hl
theorem HH : HeldC Hd okT where
  ch := fun h c hd => h.ch c hd
  weaken := fun h hk => h.weaken hk
  new := fun w => Puc.pnew_any w
  put := fun w S X g l x r h hx hok => Pug.pput_any w S X g l x r h hx hok.1 hok.2
  len := fun w S g l h => Puc.plen_any w S g l h
theorem HD : HeldD Hd oklT where
  get := fun w S g l n h h1 h2 => (Pud.pget_any w S g l n h h1 h2).mono (by
    rintro e w' ⟨r, he, ho⟩
    exact ⟨r, he, ho.pi.weaken (fun _ _ h => h.elim), ho.below⟩)
  slide := fun w S g l low h => Pui.pslide_any w S g l low h
  clone := fun w S g l h => Puj.phclone_any w S g l h
  all := fun w S g l h hl => Pup.all_any w S g l h hl.1 hl.2
  frm := fun w X v l hp hl => Puq.pfrom_any w X v l hp hl.1 hl.2
theorem HSM : SameC := fun w X Y p q rp rq hp hq ho _ => Pur.psame_any w X Y p q rp rq hp hq ho.2.2 ho.2.1 ho.1
theorem hok : ∀ m x, OkL m 1599289640354 -> okV x -> okT m x := fun m x h hx => ⟨hx, h.len⟩
theorem HN : Ptp.NoneC := Puy.HN
theorem get_range {l : List Pd} {n : Int} {x : Pd} (hr : Rise l) (h : getP l n = some x) : -9223372036854775808 <= n /\ n <= 9223372036854775807 := by
  have h1 := okN_iff.1 (hr.2 x (List.mem_of_find?_eq_some h))
  have h2 : x.seq = n := by have := List.find?_some h; simpa using this
  omega
theorem HO : Ptp.OwnC Hd := fun w S g l n x h hx => by
  obtain ⟨m, D, _, _, _, _, _, _, hr, _, _⟩ := id h
  have hn := get_range hr hx
  refine (Pud.pget_any w S g l n h hn.1 hn.2).mono ?_
  rintro e w' ⟨r, he, ho⟩
  rw [hx] at he ho
  exact ⟨r, he, ho.pi.signs, fun ad had => ho.frozen ad had, ho.below⟩
theorem live_okV : okV Psr.liveGood := by
  refine ⟨⟨fun y hy => ?_, ?_, ?_⟩, ?_, ?_, fun y hy => ?_⟩ <;> simp_all [Psr.liveGood]
theorem HL : LiveC := Psy.live_any HBG HV HH (fun l hl => ⟨live_okV, by omega⟩)
end Go.Proofs.YtmhmnkpaijoaaaaGreat.Ptz
