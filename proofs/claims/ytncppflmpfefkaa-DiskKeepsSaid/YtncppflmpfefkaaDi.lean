/-
  Contract of the program's disk: Rename.
-/
import Derived.Test.YtncppflmpfefkaaDh
namespace Go.Proofs.Ytncppflmpfefkaa.Di
open Go Go.RowKit Go.Maps Ck Kw Ga Dm Dw Da Db Dc Dd De Df Dg Dh
attribute [local go_sem ↓] Go.wp_at_zero Go.wp_at_succ
set_option linter.unusedVariables false

def renS (L : List Fl) (off : Bool) (s t : Tx) : List Fl × Nat :=
  if off then (L, 32) else match find L s with | none => (L, 4) | some f => if t = [] then (L, 1) else if t = s then (L, 0) else (ins ⟨t, f.b, f.d⟩ (del (del L s) t), 0)
theorem ren_no {L : List Fl} {off : Bool} {s t : Tx} {c : Nat} (hc : (off = true ∧ c = 32) ∨ (off = false ∧ find L s = none ∧ c = 4)) : renS L off s t = (L, c) := by
  rcases hc with ⟨rfl, rfl⟩ | ⟨rfl, hf, rfl⟩
  · rfl
  · rw [renS, hf]; rfl
theorem ren_some {L : List Fl} {s t : Tx} {f : Fl} (hf : find L s = some f) : renS L false s t = if t = [] then (L, 1) else if t = s then (L, 0) else (ins ⟨t, f.b, f.d⟩ (del (del L s) t), 0) := by
  rw [renS, hf]; rfl

theorem used_del {L : List Fl} (hn : (L.map (·.n)).Nodup) {f : Fl} (hf : f ∈ L) : used L = f.b.length + used (del L f.n) := by
  have := used_strike hn hf (fun _ => true) rfl
  rw [used_filter_all L (fun h => (fun _ => true) h.n) (fun _ _ => rfl)] at this
  rw [this]
  congr 2
theorem len_del {L : List Fl} {f : Fl} (hf : f ∈ L) : (del L f.n).length < L.length := by
  unfold del
  rw [← Nat.not_le]
  intro h
  have he := List.Sublist.eq_of_length_le (List.filter_sublist (p := fun g : Fl => !(g.n == f.n)) (l := L)) h
  rw [← he] at hf
  have := (List.mem_filter.1 hf).2
  simp at this
theorem good_ren {L : List Fl} {room : Nat} (h : GoodL L room) {f : Fl} (hf : f ∈ L) (t : Tx) (ht : t.length ≤ 140737488355328) : GoodL (ins ⟨t, f.b, f.d⟩ (del (del L f.n) t)) room := by
  have h1 := len_del hf
  have h2 : (del (del L f.n) t).length ≤ (del L f.n).length := List.length_filter_le _ _
  have h3 := used_del h.nodup hf
  have h4 : used (del (del L f.n) t) ≤ used (del L f.n) := used_filter_le _ _
  have h5 := h.few
  have h6 := h.fits
  refine good_ins (good_del (good_del h _) _) (by rw [isIn_del]; simp) (by omega) (by show f.b.length + _ ≤ _; omega) ht (h.done f hf)
/-- Where the file of a name was. -/
def fro (s t : Tx) (x : Tx) : Tx := if x = t then s else x
theorem tells_ren {D : DataW Unit} {L : List Fl} {G : Tx → Nat} (h : TellsD D L G) {s : Tx} (hD : Maps.IsMap (D.del (.string s))) (t : Tx) (b : Tx) (d : Nat) : TellsD ((D.del (.string s)).put (.string t) (.lit (.int .i64 (G s : Int)))) (ins ⟨t, b, d⟩ (del (del L s) t)) (fun x => G (fro s t x)) := by
  refine ⟨fun x => ?_, fun f hf zd => ?_⟩
  · rw [has_put hD, isIn_ins, isIn_del, isIn_del, (tells_del h s).1 x, isIn_del]
    by_cases e : x = t
    · subst e; simp
    · have : (x == t) = false := by rw [beq_eq_false_iff_ne]; exact e
      rw [this]; simp
  · rcases mem_ins.1 hf with rfl | hf
    · rw [Maps.atKey_put_same hD (strKey t)]
      simp [fro]
    · have h1 := mem_del.1 hf
      rw [Maps.atKey_put_other (strKey_ne h1.2), (tells_del h s).2 f h1.1]
      simp [fro, h1.2]
theorem tells_back {D : DataW Unit} {L : List Fl} {G : Tx → Nat} {f : Fl} (h : TellsD D L G) (hf : f ∈ L) (hn : (L.map (·.n)).Nodup) (hD : Maps.IsMap (D.del (.string f.n))) : TellsD ((D.del (.string f.n)).put (.string f.n) (.lit (.int .i64 (G f.n : Int)))) L G := by
  refine ⟨fun x => ?_, fun g hg zd => ?_⟩
  · rw [has_put hD, (tells_del h f.n).1 x, isIn_del]
    by_cases e : x = f.n
    · rw [e, isIn_iff.2 ⟨f, hf, rfl⟩]; simp
    · have h1 : (x == f.n) = false := by rw [beq_eq_false_iff_ne]; exact e
      have h2 : (f.n == x) = false := by rw [beq_eq_false_iff_ne]; exact fun h => e h.symm
      rw [h1, h2]; simp
  · by_cases e : g.n = f.n
    · rw [e, Maps.atKey_put_same hD (strKey _)]
    · rw [Maps.atKey_put_other (strKey_ne e), (tells_del h f.n).2 g (mem_del.2 ⟨hg, e⟩)]

theorem fro_inj {L : List Fl} {s t : Tx} {b : Tx} {d : Nat} (hst : t ≠ s) : ∀ f ∈ ins ⟨t, b, d⟩ (del (del L s) t), ∀ h ∈ ins ⟨t, b, d⟩ (del (del L s) t), fro s t f.n = fro s t h.n → f.n = h.n := by
  have key : ∀ f ∈ ins ⟨t, b, d⟩ (del (del L s) t), f.n = t ∨ (f.n ≠ t ∧ f.n ≠ s) := fun f hf => by
    rcases mem_ins.1 hf with rfl | hf
    · exact .inl rfl
    · exact .inr ⟨(mem_del.1 hf).2, (mem_del.1 (mem_del.1 hf).1).2⟩
  intro f hf h hh e
  unfold fro at e
  rcases key f hf with h1 | ⟨h1, h1'⟩ <;> rcases key h hh with h2 | ⟨h2, h2'⟩
  · rw [h1, h2]
  · rw [if_pos h1, if_neg h2] at e
    exact absurd e.symm h2'
  · rw [if_neg h1, if_pos h2] at e
    exact absurd e h1'
  · rw [if_neg h1, if_neg h2] at e
    exact e

set_option maxRecDepth 100000 in
set_option maxHeartbeats 1000000 in
theorem rename_on (w : World) (S : Nat → Prop) (p : Nat) (L : List Fl) (room : Nat) (off : Bool) (s t : Tx) (hs : s.length ≤ 140737488355328) (ht : t.length ≤ 140737488355328) (h : Dk w S p L room off) :
    Calls Try.prog 29 #[.pointer (some ⟨p, 0, none⟩), .string ⟨s.toArray⟩, .string ⟨t.toArray⟩] w (Did S p (renS L off s t) room off w) := by
  rcases find_cases L off s with ⟨q, hq1, hq2, hq⟩ | ⟨rfl, f, hf⟩
  · have HF := Lib.hid (find_no w S p L room off s hs h q hq)
    have H := Lib.hid h
    rw [ren_no hq]
    have hne : ((q : Int) == 0) = false := by rw [beq_eq_false_iff_ne]; omega
    clear h hq
    go_enter Try.func29, Try.ntmps29
    go_wp2_with (go_at_call 50; refine HF.out.mono ?_; rintro e w' ⟨rfl, rfl⟩)
    go_ret
    exact did_refl H.out
  · obtain ⟨m, D, G, T, hP⟩ := h.opened
    have HF := Lib.hid (find_in w S p m L room D G T s hs hP f hf)
    have H := Lib.hid h
    by_cases h0 : t = []
    · have e : renS L false s t = (L, 1) := by rw [ren_some hf, if_pos h0]
      rw [e]
      subst h0
      clear h hP hf e
      go_enter Try.func29, Try.ntmps29
      go_wp2_with (go_at_call 50; refine HF.out.mono ?_; rintro e w' ⟨rfl, rfl⟩)
      go_ret
      exact did_refl H.out
    · have hse := str_ne h0
      have hfm := (find_some hf).1
      have hfn := (find_some hf).2
      have c0 : w.cell? ⟨p, 0, none⟩ = some (.map (some m)) := hP.blk.cell 0
      have hmp : m ≠ p := hP.sm.2
      have c0' : ∀ w1, w.mapTurned w1 m → w1.cell? ⟨p, 0, none⟩ = some (.map (some m)) := fun w1 ht =>
        (hP.blk.ch (Ch.of_grown (S := fun k => k = m) ht.grown (fun g hg _ => (Option.some.inj hg).symm)) (fun e => hmp e.symm)).cell 0
      have HC := Lib.hid c0'
      have HP := Lib.hid hP
      have HM := Lib.hid hfm
      have HK := Lib.hid (key_str s (by simp only [maxLen]; omega))
      have HKT := Lib.hid (key_str t (by simp only [maxLen]; omega))
      have hsz : ∀ w1 : World, w1.ownsMap Try.prog 9 ptrElem m 64 (D.del (.string s)) → Maps.size (D.del (.string s)) < 64 := fun w1 ho => by
        have h1 := size_names ho (tells_del hP.tells s) (good_del hP.good s).nodup
        have h2 := len_del hfm
        rw [hfn] at h2
        have := hP.good.few
        omega
      have HSZ := Lib.hid hsz
      have HLT : Hid (∀ n, n < 64 → n < maxLen) := Lib.hid (fun n hn => by simp only [maxLen]; omega)
      have HFI := Lib.hid hf
      have H0 := Lib.hid h0
      have HST := Lib.hid (And.intro hs ht)
      subst hfn
      clear h hP hf hfm hsz c0' h0 hs ht
      go_enter Try.func29, Try.ntmps29
      go_wp2_with (first
        | (go_at_call 50; refine HF.out.mono ?_; rintro e w' ⟨rfl, rfl⟩)
        | (at_delete; refine wpList_delete_own _ rfl _ _ 60 9 rfl 69 law_str Try.underlying60 ptrElem m 64 D rfl HP.out.own _ _ rfl HK.out ?_; intro w1 hown1 hturn1; have d0 := HC.out w1 hturn1)
        | (at_mapUpdate; refine wpList_mapUpdate_in (H := Unit) _ rfl _ _ _ 60 rfl 9 69 law_str Try.underlying60 ptrElem m (Maps.size (D.del (.string f.n))) (D.del (.string f.n)) rfl (own_tight hown1) (HLT.out _ (HSZ.out _ hown1)) _ _ (.string t) rfl rfl HKT.out (.lit (.int .i64 (G f.n : Int))) [] (ptrElem_mk _) ?_; intro w2 hmap2 hturn2))
      go_ret
      have hc1 : Ch (fun k => k = m) w w1 := Ch.of_grown hturn1.grown (fun g hg _ => (Option.some.inj hg).symm)
      have hc2 : Ch (fun k => k = m) w1 w2 := Ch.of_grown hturn2.grown (fun g hg _ => (Option.some.inj hg).symm)
      have hc := hc1.trans hc2 (fun _ _ h => h)
      have ho2 := hmap2.mono (n' := 64) (by have := HSZ.out _ hown1; omega)
      have hDm := hown1.isMap
      have hcS : Ch S w w2 := hc.mono (fun k _ hk => by rw [hk]; exact HP.out.sm.1)
      by_cases hst : t = f.n
      · have e : renS L false f.n t = (L, 0) := by rw [ren_some HFI.out, if_neg H0.out, if_pos hst]
        rw [e]
        rw [hst] at ho2
        have hP2 := parts_map HP.out hc ho2 (fun s => s) (tells_back HP.out.tells HM.out HP.out.good.nodup hDm) HP.out.good (fun f' hf' => ⟨f', hf', rfl, rfl, rfl⟩) (fun _ _ _ _ e => e)
        exact ⟨rfl, (Parts.shut hP2).weaken (fun k hk => Or.inl hk), hcS⟩
      · have e : renS L false f.n t = (ins ⟨t, f.b, f.d⟩ (del (del L f.n) t), 0) := by rw [ren_some HFI.out, if_neg H0.out, if_neg hst]
        rw [e]
        have hP2 := parts_map HP.out hc ho2 (fro f.n t) (tells_ren HP.out.tells hDm t f.b f.d) (good_ren HP.out.good HM.out t HST.out.2) (fun f' hf' => by
          rcases mem_ins.1 hf' with rfl | hf'
          · exact ⟨f, HM.out, by simp [fro], rfl, rfl⟩
          · have h1 := mem_del.1 hf'
            exact ⟨f', (mem_del.1 h1.1).1, by simp [fro, h1.2], rfl, rfl⟩) (fro_inj hst)
        exact ⟨rfl, (Parts.shut hP2).weaken (fun k hk => Or.inl hk), hcS⟩

end Go.Proofs.Ytncppflmpfefkaa.Di
