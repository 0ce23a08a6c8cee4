/-
  Layer 16 (newview): the program's entries.
-/
import Derived.Test.YtfdhaodgnenhcaaQ04
import Derived.Test.YtfdhaodgnenhcaaQ07
import Derived.Maps.RangeWalk
import Derived.Test.YtfdhaodgnenhcaaQ06
import Derived.Test.YtfdhaodgnenhcaaQ03
import Derived.Deep.Cut
namespace Go.Proofs.Ytfdhaodgnenhcaa.Nxf
set_option linter.unusedSimpArgs false
open Go Go.RowKit Ck Kw Ga Kf Pm Py Jm Jb Jt Pra Prb Prh Prr Pte Pub Ky Nva Nvb Nve Nxa Nxe
attribute [local go_sem ↓] Go.wp_at_zero Go.wp_at_succ
set_option linter.unusedVariables false
set_option maxRecDepth 100000

/-- A row of one's own whose elements point into blocks of T, none of which is the row's. -/
structure OT {α ρ : Type} (κ : Ky.Kd α ρ) (w0 : World) (t : TypeId) (T : Nat → Prop) (v : Value) (l : List α) (W : World) : Prop where
  og : OG κ W w0.heap.size t (fun k => ¬ T k) v l
  lo : ∀ k, T k → w0.heap.size ≤ k ∧ k < W.heap.size
  own : ∀ q, v.ownBlock = some q → ¬ T q
  below : Below w0.heap.size w0 W
theorem OT.nil {α ρ : Type} (κ : Ky.Kd α ρ) (w0 : World) (t : TypeId) {W : World} (b : Below w0.heap.size w0 W) : OT κ w0 t (fun _ => False) (.slice none 0 0) [] W :=
  ⟨OG.nil _ _ _ _ _, fun k h => h.elim, fun q h => by simp [Value.ownBlock] at h, b⟩
theorem OT.later {α ρ : Type} {κ : Ky.Kd α ρ} {w0 : World} {t : TypeId} {T : Nat → Prop} {v : Value} {l : List α} {W W' : World} (h : OT κ w0 t T v l W) (b : Below W.heap.size W W') : OT κ w0 t T v l W' :=
  ⟨h.og.below b, fun k hk => ⟨(h.lo k hk).1, Nat.lt_of_lt_of_le (h.lo k hk).2 b.size⟩, h.own, h.below.trans (b.mono h.below.size)⟩
theorem OT.snoc {α ρ : Type} {κ : Ky.Kd α ρ} {w0 : World} {t : TypeId} {T : Nat → Prop} {v v' : Value} {l : List α} {rs : List ρ} {a : α} {r : ρ} {W W1 W3 : World} {o : Obj} (h : OT κ w0 t T v l W) (hg : Gts κ W (fun k => ¬ T k) l rs) (hr : W.ownsRow w0.heap.size t κ.K v l.length (flatG κ l rs)) (b : Below W.heap.size W W1) (hI : κ.I W1 (fun q => q < W.heap.size) a r)
    (ha : Appended (W1.alloc o) w0.heap.size t κ.K v (l.length + 1) (flatG κ l rs ++ (κ.C a r).toList) v' W3) : OT κ w0 t (fun k => T k ∨ (W.heap.size ≤ k ∧ k < W1.heap.size)) v' (l ++ [a]) W3 := by
  have hb2 : Below W1.heap.size W1 (W1.alloc o) := (Below.refl _ _).alloc (Nat.le_refl _) _
  have hbb := b.trans (hb2.mono b.size)
  have hs := b.size
  have hs2 : (W1.alloc o).heap.size = W1.heap.size + 1 := by simp
  have hc := Ch.of_grown (S := fun k => v.ownBlock = some k) ha.2.1 (fun g hg _ => hg)
  have hs3 := hc.size
  have hw := h.below.size
  have how : ∀ q, v.ownBlock = some q → w0.heap.size ≤ q ∧ q < W.heap.size := fun q hq => hr.lt q hq
  refine ⟨OG.snoc ((hg.weaken (fun b _ hn ht => hn (.inl ht))).after hbb) (κ.after (κ.weaken hI (fun b hb hn => ?_)) hb2) ha hc (fun k hk => ?_), fun k hk => ?_, fun q hq => ?_, ?_⟩
  · show b < W.heap.size
    rcases Nat.lt_or_ge b W.heap.size with hlt | hge
    · exact hlt
    · exact (hn (.inr ⟨hge, hb⟩)).elim
  · rintro (ht | ht)
    · exact h.own k hk ht
    · have := how k hk; omega
  · rcases hk with hk | hk
    · have := h.lo k hk; omega
    · omega
  · rcases ha.2.2 with e | e
    · rw [e] at hq
      rintro (ht | ht)
      · exact h.own q hq ht
      · have := how q hq; omega
    · rw [e] at hq
      obtain rfl := Option.some.inj hq
      rintro (ht | ht)
      · have := h.lo _ ht; omega
      · omega
  · exact (h.below.trans (hbb.mono hw)).trans (hc.below (fun k hk e => by have := how k e; omega) (by omega))
theorem info_entry : (Try.prog.info? 56).map (fun i => (i.zero, i.size, i.bytes)) = some (some (.agg #[.int .i64 0, .int .i64 0, .slice none 0 0, .int .i64 0, .int .i64 0]), 5, 56) := by kernel_rfl
/-- What a list of view-changes is of, for Select. -/
structure okL (l : List Cg) : Prop where
  above : ∀ c ∈ l, c.above.length ≤ NN
  seq : ∀ c ∈ l, ∀ p ∈ c.above, I64 p.seq
  each : ∀ c ∈ l, ∀ p ∈ c.above, okV p
theorem field_batch (W : World) (a0 a1 a2 a3 a4 a5 : Value) (A : Option Addr) (n c : Nat) : (Instr.field 43 (.agg #[a0, a1, a2, a3, a4, a5, .slice A n c]) 5).run Try.prog W = .ok (.slice A n c) W := by kernel_rfl
theorem batch_of (o : Option Pd) : (o.getD Pd.zero).batch = batchO o := by cases o <;> rfl
theorem batch_ok {l : List Cg} (h : okL l) (s : Int) : (∀ y ∈ batchO (latC s none l), far y.q.o 140737488351232) ∧ (batchO (latC s none l)).length * 104 ≤ 140737488355328 := by
  cases hx : latC s none l with
  | none => exact ⟨fun y hy => absurd hy (by simp [batchO]), by simp [batchO]⟩
  | some p =>
    rcases latC_mem l hx with h1 | ⟨h1, c, h2, h3⟩
    · cases h1
    · have := h.each c h2 p h3
      exact ⟨this.2.2.2, by have := this.2.2.1; simp only [batchO]; omega⟩
theorem top_range {l : List Cg} (h : okL l) {low : Int} (hl : I64 low) : topC low l ≤ 9223372036854775807 := topC_range l hl.2 (fun c hc p hp => (h.seq c hc p hp).2)
set_option maxHeartbeats 8000000 in
theorem entries_any (w : World) (X : Nat → Prop) (view low : Int) (v : Value) (l : List Cg) (h : CgL w X v l) (hl : l.length ≤ 13) (hok : okL l) (hlow : I64 low) :
    Calls Try.prog 25 #[.int .i64 view, .int .i64 low, v] w fun e w' => ∃ T v', e = .returned v' ∧ OT kE w 56 T v' (entriesE view low (topC 0 l) l) w' := by
  have HLT := Lib.hid (latest_any w X v l h hl hok.above hok.seq)
  have HOK := Lib.hid (And.intro hok hlow)
  by_cases h0 : low < 0
  · have HN : Hid (entriesE view low (topC 0 l) l = []) := Lib.hid (by unfold entriesE; rw [none_prog l h0]; rfl)
    clear hlow HLT
    go_enter Try.func25, Try.ntmps25
    go_wp2_with fail
    go_ret
    exact ⟨_, _, rfl, by rw [HN.out]; exact OT.nil _ _ _ (Below.refl _ _)⟩
  · have HMN : Hid ((manyE low (topC 0 l) : Int) = min (topC low l - low) 8) := Lib.hid (many_prog l (by omega))
    have HTR := Lib.hid (And.intro (top_range hok hlow) ((topC_le l low).1))
    clear hok hlow hl h
    go_enter Try.func25, Try.ntmps25
    go_wp2_with fail
    refine HLT.out.mono ?_
    rintro e w1 ⟨b, n, D, rfl, ht⟩
    have HT := Lib.hid ht
    have hown := ht.own
    have hb1 := ht.below
    clear ht
    go_wp2_with (at_range; refine wpList_range_own _ rfl _ 78 rfl 2 43 law_i64 Try.underlying78 _ b n D rfl hown ?_; intro w2 hrg0 hg0 hs0)
    have hb2 : Below w1.heap.size w1 w2 := below_of_grown hg0 (fun k hk => by cases hk)
    have HT2 := Lib.hid (HT.out.later hb2)
    have HSZ : Hid (w.heap.size ≤ w1.heap.size ∧ b < w1.heap.size ∧ w.heap.size ≤ b) := Lib.hid ⟨hb1.size, hown.lt, HT.out.big⟩
    generalize w1.heap.size = r at *
    have HTA : Hid (TopAt (fun s => latC s none l) low (Maps.has D) low) := Lib.hid ⟨Int.le_refl _, .inl rfl, fun n hn hl => by rw [HT.out.df.has, hn] at hl; cases hl⟩
    clear hown hb1 hb2 hg0 hs0
    go_frame
    go_loopw [8] (fun tv wr => ∃ (t : Int) (left : Lit → Bool) (cnt : Nat), tv = .int .i64 t ∧ wr.ranges Try.prog 2 RV b r n D left cnt ∧ TopAt (fun s => latC s none l) low left t ∧ Below w.heap.size w wr)
      (fun _ wr => wr.rangeLeft b r)
    case atStart => exact ⟨low, _, _, rfl, hrg0, HTA.out, HT2.out.below⟩
    case round =>
      obtain ⟨t, left, cnt, rfl, hrg, hta, hbr⟩ := hrel
      clear hrg0
      have HDF := Lib.hid HT.out.df
      go_wp2_with (at_next; refine wpList_next_told _ rfl _ rfl b r n D left cnt HDF.out rfl hrg ?_ ?_)
      · intro hdone
        have HTE : Hid (t = topC low l) := Lib.hid (hta.done hdone)
        have HTM : Hid (TM w X b n D (fun s => latC s none l) wr) := Lib.hid ⟨hbr, hrg.owns, HT.out.df, HSZ.out.2.2⟩
        have HTT : Hid (t ≤ 9223372036854775807 ∧ low ≤ t) := Lib.hid (by rw [HTE.out]; exact HTR.out)
        have HL0 : Hid (0 ≤ low) := Lib.hid (by omega)
        have HM : Hid ((manyE low (topC 0 l) : Int) = min (t - low) 8) := Lib.hid (by rw [HTE.out]; exact HMN.out)
        have hw : IntKind.i64.wrap (t - low) = t - low := wrap64 (by have := HTT.out; omega) (by have := HTT.out; have := HL0.out; omega)
        clear hta hrg hbr h0 HTE
        obtain ⟨mn, hmn⟩ : ∃ mn, mn = manyE low (topC 0 l) := ⟨_, rfl⟩
        rw [← hmn] at HM
        have HMN := Lib.hid hmn
        clear hmn
        obtain ⟨i0, hi0, hz0, hz1, hz2⟩ := info_parts info_entry
        have HOW : Hid (wr.ownsMap Try.prog 2 RV b n D ∧ OT kE w 56 (fun _ => False) (.slice none 0 0) ([] : List En) wr) := Lib.hid ⟨HTM.out.own, OT.nil _ _ _ HTM.out.below⟩
        go_wp2_with fail
        rw [← HM.out]
        have hmn8 : mn ≤ 8 := by have := HM.out; omega
        go_loopw [10, 31] (fun lv i wx => ∃ (k : Nat) (T : Nat → Prop), k ≤ mn ∧ i = .int .i64 k ∧ OT kE w 56 T lv ((List.range k).map (entE view low l)) wx ∧ wx.ownsMap Try.prog 2 RV b n D) (fun _ i _ => mn - (intOf i).toNat)
        case atStart => exact ⟨0, fun _ => False, Nat.zero_le _, rfl, HOW.out.2, HOW.out.1⟩
        case round =>
          obtain ⟨k, T, hk, rfl, hot, hown⟩ := hrel
          by_cases hlt : k < mn
          · have hkp : (0 : Int) ≤ (k : Int) := by omega
            have hkl : (k : Int) < (mn : Int) := by omega
            have hkt : low + 1 + (k : Int) ≤ t := by have := HM.out; omega
            obtain ⟨z, hz⟩ : ∃ z, z = low + 1 + (k : Int) := ⟨_, rfl⟩
            have hw1 : IntKind.i64.wrap (low + 1) = low + 1 := wrap64 (by have := HL0.out; omega) (by have := HTT.out; omega)
            have hw2 : IntKind.i64.wrap (low + 1 + (k : Int)) = z := by rw [hz]; exact wrap64 (by have := HL0.out; omega) (by have := HTT.out; omega)
            have HEE : Hid (entE view low l k = ⟨view, z, batchO (latC z none l), (0, 0)⟩) := Lib.hid (by
              have : low + (k : Int) + 1 = z := by omega
              unfold entE
              rw [this])
            have hzi : I64 z := ⟨by have := HL0.out; omega, by have := HTT.out; omega⟩
            obtain ⟨ro, hpo, hlk⟩ := look_df HT.out.df hzi
            have hl2 := (hlk wr b n hown).2
            have hbo := batch_of (latC z none l)
            have hbk := batch_ok HOK.out.1 z
            have HCL := Lib.hid (cloneb_any wr _ ro.2.1 ro.2.2 ((latC z none l).getD Pd.zero).batch (hpo.batch.after hot.below) (by rw [hbo]; exact hbk.1) (by rw [hbo]; exact hbk.2))
            have HSN := Lib.hid (ents_step view low l k)
            obtain ⟨rs, hg, hrow⟩ := hot.og.ex
            have HOT := Lib.hid (And.intro hot (And.intro hg (And.intro hrow hown)))
            have HEL : Hid (((List.range k).map (entE view low l)).length + 1 ≤ maxLen ∧ (((List.range k).map (entE view low l)).length + 1) * 56 ≤ 140737488355328) := Lib.hid (by rw [List.length_map, List.length_range]; simp only [maxLen]; omega)
            rw [hbo] at HCL
            generalize (List.range k).map (entE view low l) = es at *
            obtain ⟨Ae, ce, rfl⟩ := own_shape hrow
            generalize (latC z none l).getD Pd.zero = old at *
            generalize batchO (latC z none l) = bat at *
            clear hg hrow hot hown hpo hlk hz hkt
            unfold PC at hl2
            have hfd := field_batch wr (.int .i64 old.view) (.int .i64 old.seq) (.int .i64 old.dig) (.int .i64 old.first.1) (.int .i64 old.first.2) (.slice ro.1.1 old.signs.length ro.1.2) ro.2.1 bat.length ro.2.2
            go_wp2_with fail
            refine HCL.out.mono ?_
            rintro e w5 ⟨A5, c5, rs5, rfl, hcl⟩
            have hb5 := hcl.below
            have HBI := Lib.hid (clb_bi hcl)
            have HB5 := Lib.hid hb5
            have HRW : Hid ((w5.alloc (.cells (EC ⟨view, z, bat, (0, 0)⟩ (A5, c5)) 56)).ownsRow w.heap.size 56 5 (.slice Ae es.length ce) es.length (flatG kE es rs)) := Lib.hid (own_below HOT.out.2.2.1 (hb5.alloc hb5.size _))
            have HLIT := Lib.hid (lit_one kE w5 (fun _ => False) 56 ⟨view, z, bat, (0, 0)⟩ (A5, c5) (fun h => h))
            have HONE := Lib.hid (EC_one ⟨view, z, bat, (0, 0)⟩ (A5, c5))
            have HWS : Hid (w.heap.size ≤ (w5.alloc (.cells (EC ⟨view, z, bat, (0, 0)⟩ (A5, c5)) 56)).heap.size) := Lib.hid (by have := HOT.out.1.below.size; have := hb5.size; simp only [World.size_alloc]; omega)
            change Hid (Sl (w5.alloc (.cells (EC ⟨view, z, bat, (0, 0)⟩ (A5, c5)) 56)) (fun _ => False) 5 _ 1 (EC ⟨view, z, bat, (0, 0)⟩ (A5, c5)).toList) at HLIT
            clear hcl hb5 hl2 hfd
            unfold EC at HLIT HONE HRW HWS
            go_wp2_with (at_builtin; refine wpList_append_sh _ rfl (.tmp 38) (.tmp 47) _ rfl w.heap.size 56 i0 _ 5 56 Try.underlying27 hi0 hz0 hz1 hz2 rfl (by omega) (.slice Ae es.length ce) es.length (flatG kE es rs) rfl HRW.out (fun _ => False) _ 1 _ rfl HLIT.out HONE.out HEL.out.1 HEL.out.2 HWS.out ?_; intro Af cf w6 happ)
            have hno := OT.snoc (κ := kE) (a := ⟨view, z, bat, (0, 0)⟩) (r := (A5, c5)) HOT.out.1 HOT.out.2.1 HOT.out.2.2.1 HB5.out HBI.out happ
            have hb7 : Below w5.heap.size w5 (w5.alloc (.cells (EC ⟨view, z, bat, (0, 0)⟩ (A5, c5)) 56)) := (Below.refl _ _).alloc (Nat.le_refl _) _
            have hown6 := map_ch HOT.out.2.2.2 ((Ch.of_below (S := fun k => (Value.slice Ae es.length ce).ownBlock = some k) (HB5.out.trans (hb7.mono HB5.out.size)) (Nat.le_refl _)).trans (Ch.of_grown (S := fun k => (Value.slice Ae es.length ce).ownBlock = some k) happ.2.1 (fun g hg _ => hg)) (fun _ _ h => h)) (map_row HOT.out.2.2.2 HOT.out.2.2.1)
            rw [← HEE.out, ← HSN.out] at hno
            have HNO := Lib.hid (And.intro hno hown6)
            clear hno hown6 hb7 happ HLIT HONE HRW HWS
            go_roundw
            case rel => exact ⟨k + 1, _, by omega, by go_num, HNO.out.1, HNO.out.2⟩
            case measure => simp [intOf]; omega
          · have hke : k = mn := by omega
            subst hke
            have HFN : Hid (OT kE w 56 T _ (entriesE view low (topC 0 l) l) wr) := Lib.hid (by unfold entriesE; rw [← HMN.out]; exact hot)
            clear hot hown
            go_wp2_with fail
            go_ret
            exact ⟨T, _, rfl, HFN.out⟩
      · intro s vv w3 cnt3 hs hleft hrg3 hlt3 hg3 hs3 hen
        have hc3 : Ch (fun k => k = r) wr w3 := Ch.of_grown hg3 (fun k hk _ => (Option.some.inj hk).symm)
        have HB3 := Lib.hid (hbr.trans (hc3.below (fun k hk e => by have := HSZ.out; omega) hbr.size))
        have HTA3 := Lib.hid (hta.step hs)
        have HLT3 := Lib.hid (And.intro hlt3 hrg)
        have HRG3 := Lib.hid hrg3
        clear hta hrg hbr hs hleft hlt3 hg3 hs3 hc3 hrg3
        go_wp2_with fail
        go_roundw
        case rel => exact ⟨max t s, _, cnt3, rfl, HRG3.out, HTA3.out, HB3.out⟩
        case measure => rw [HRG3.out.left_eq, HLT3.out.2.left_eq]; exact HLT3.out.1
end Go.Proofs.Ytfdhaodgnenhcaa.Nxf

/-
  Layer 15 (prepared): opening certificates, what is done with a Held, specs, votes under the form's own reach.
-/
namespace Go.Proofs.Ytfdhaodgnenhcaa.Ptm
set_option linter.unusedSimpArgs false
open Go Go.RowKit Go.ChangeShapes Go.WideShapes Go.ChangeAt Go.Deep Ck Kf Kp Pm Pe Py Lk Jm Ja Jb Jo Pra Prb Prr Pta Pte
set_option linter.unusedVariables false
set_option maxRecDepth 100000

section
variable {H : Type} {enc : TypeId × Value → H}
/-- A slice, opened: its elements one by one. -/
theorem open_gen {w : World} {fuel base : Nat} {v : Value} {x : DataW H × List MemPlace} {TS TE : TypeId} (hu : Try.prog.underlying TS = some (.slice TE)) {size bytes R : Nat} (hc : Try.prog.cellsOf TE = size) (hb : Try.prog.bytesOf TE = bytes) (hs : 0 < size)
    {E : Type} (cells : E → List Value) (hlen : ∀ e, (cells e).length = size) (P : E → Prop) (d : E)
    (helem : ∀ fuel cs y, DataW.trod enc Try.prog w base (fun _ => true) true fuel TE cs = some y → (∀ n ∈ y.1.weights Try.prog TE, n ≤ R) → ∃ e, cs = cells e ∧ P e)
    (h : DataW.trod enc Try.prog w base (fun _ => true) true fuel TS [v] = some x) (hR : ∀ n ∈ x.1.weights Try.prog TS, n ≤ R) :
    ∃ l : List E, Sl w (fun k => w.heap.size ≤ k) size v l.length (l.flatMap cells) ∧ l.length * bytes ≤ R ∧ ∀ e ∈ l, P e := by
  rcases open_slice hu h with ⟨hcs, rfl⟩ | ⟨a, len, cap, m, n, D, Pl, hcs, _, hl, hm, hmm, rfl, hx⟩
  · obtain rfl : v = .slice none 0 0 := by simpa using hcs
    exact ⟨[], Sl.nil _ _ _, by simp, fun e he => absurd he (by simp)⟩
  · obtain rfl : v = .slice (some a) len cap := by simpa using hcs
    simp only [if_true] at hmm
    have each : ∀ i, ∃ e : E, i < len → (∀ j u, (cells e)[j]? = some u → w.cell? (a.add (i * size + j)) = some u) ∧ P e := by
      intro i
      by_cases hi : i < len
      · obtain ⟨cs', hcc, ht⟩ := hx i (by omega)
        obtain ⟨e, rfl, hp⟩ := helem _ _ _ ht (fun n hn => hR n (by
          simp only [DataW.weights, hu, List.mem_cons, List.mem_append]
          exact .inr (.inl (all_mem hn (List.mem_map.2 ⟨i, by simpa using hi, rfl⟩)))))
        rw [hc] at hcc
        obtain ⟨_, _, hcell⟩ := World.cells?_some hcc
        refine ⟨e, fun _ => ⟨fun j u hj => ?_, hp⟩⟩
        have hjl : j < size := by rw [← hlen e]; exact (List.getElem?_eq_some_iff.1 hj).1
        have h1 := hcell j hjl
        rw [Ck.add_add] at h1
        rw [h1, ← hj, List.getElem?_eq_getElem (by rw [hlen]; exact hjl)]
      · exact ⟨d, fun h => absurd h hi⟩
    obtain ⟨f, hf⟩ := Classical.axiomOfChoice each
    have hll : ((List.range len).map f).length = len := by simp
    refine ⟨(List.range len).map f, ?_, ?_, fun e he => ?_⟩
    · refine ⟨some a, cap, by rw [hll], by rw [flat_len hlen, hll], by rw [hll]; exact hl, hm, fun hn => ?_⟩
      rw [hll] at hn
      have h00 : (cells (f 0))[0]? = some ((cells (f 0))[0]'(by rw [hlen]; exact hs)) := List.getElem?_eq_getElem _
      have h0 := (hf 0 hn).1 0 _ h00
      refine ⟨a, rfl, by have := World.block_lt_of_cell? w _ h0; rw [Ck.add_block] at this; exact this, by have := World.block_lt_of_cell? w _ h0; rw [Ck.add_block] at this; omega, fun j u hj => ?_⟩
      have hjl : j < len * size := by
        have := (List.getElem?_eq_some_iff.1 hj).1
        rw [flat_len hlen, hll] at this
        exact this
      have hi : j / size < len := (Nat.div_lt_iff_lt_mul hs).2 hjl
      have hmd : j % size < size := Nat.mod_lt _ hs
      have hg := flat_get hlen ((List.range len).map f) (j / size) (by rw [hll]; exact hi) (j % size) hmd
      rw [Nat.div_add_mod' j size] at hg
      rw [hg] at hj
      have := (hf (j / size) hi).1 (j % size) u (by rw [← hj]; congr 1; simp)
      rwa [Nat.div_add_mod' j size] at this
    · have := hR _ (by simp only [DataW.weights, hu]; exact List.mem_cons_self)
      rw [hb] at this
      rw [hll]
      simp only [List.length_append, List.length_map, List.length_range, List.length_replicate] at this
      exact Nat.le_trans (Nat.mul_le_mul_right bytes (by omega)) this
    · obtain ⟨i, hi, rfl⟩ := List.mem_map.1 he
      exact (hf i (by simpa using hi)).2
theorem bytes_sgn : Try.prog.bytesOf 39 = 16 := by kernel_rfl
theorem open_ss {w : World} {fuel base : Nat} {v : Value} {x : DataW H × List MemPlace} {R : Nat} (h : DataW.trod enc Try.prog w base (fun _ => true) true fuel 24 [v] = some x) (hR : ∀ n ∈ x.1.weights Try.prog 24, n ≤ R) :
    ∃ l : List Sg, SS w (fun k => w.heap.size ≤ k) v l ∧ l.length * 16 ≤ R ∧ ∀ s ∈ l, wfS s :=
  open_gen Try.underlying24 cells_sgn bytes_sgn (by omega) SC SC_len wfS (0, 0) (fun fuel cs y hy _ => by
    obtain ⟨s, h1, h2⟩ := open_sg hy
    exact ⟨s, h1, h2⟩) h hR
theorem cells_prep : Try.prog.cellsOf 43 = 7 := by kernel_rfl
theorem bytes_prep : Try.prog.bytesOf 43 = 88 := by kernel_rfl
theorem cells_ss : Try.prog.cellsOf 24 = 1 := by kernel_rfl
theorem cells_bat : Try.prog.cellsOf 41 = 1 := by kernel_rfl
def wfP (p : Pd) : Prop := (-9223372036854775808 ≤ p.seq ∧ p.seq ≤ 9223372036854775807) ∧ (-9223372036854775808 ≤ p.view ∧ p.view ≤ 9223372036854775807)
theorem open_prep {w : World} {base fuel : Nat} {cs : List Value} {x : DataW H × List MemPlace} (h : DataW.trod enc Try.prog w base (fun _ => true) true fuel 43 cs = some x) (hR : ∀ n ∈ x.1.weights Try.prog 43, n ≤ 140737488351232) :
    ∃ e : Pd × Pl2, cs = (PC e.1 e.2).toList ∧ PI w (fun k => w.heap.size ≤ k) e.1 e.2 ∧ okV e.1 ∧ wfP e.1 := by
  obtain ⟨xs, n', _, hx, hl, hxl, hf⟩ := DataW.trod_struct Try.underlying43 h
  rw [cells_prep] at hl
  have hxl' : xs.length = 6 := hxl
  match cs, hl with
  | [v0, v1, v2, v3, v4, v5, v6], _ =>
    have f0 : DataW.trod enc Try.prog w base (fun _ => true) true n' 2 (([v0, v1, v2, v3, v4, v5, v6].drop 0).take (Try.prog.cellsOf 2)) = xs[0]? := hf 0 _ rfl
    have f1 : DataW.trod enc Try.prog w base (fun _ => true) true n' 2 (([v0, v1, v2, v3, v4, v5, v6].drop 1).take (Try.prog.cellsOf 2)) = xs[1]? := hf 1 _ rfl
    have f2 : DataW.trod enc Try.prog w base (fun _ => true) true n' 23 (([v0, v1, v2, v3, v4, v5, v6].drop 2).take (Try.prog.cellsOf 23)) = xs[2]? := hf 2 _ rfl
    have f3 : DataW.trod enc Try.prog w base (fun _ => true) true n' 39 (([v0, v1, v2, v3, v4, v5, v6].drop 3).take (Try.prog.cellsOf 39)) = xs[3]? := hf 3 _ rfl
    have f4 : DataW.trod enc Try.prog w base (fun _ => true) true n' 24 (([v0, v1, v2, v3, v4, v5, v6].drop 5).take (Try.prog.cellsOf 24)) = xs[4]? := hf 4 _ rfl
    have f5 : DataW.trod enc Try.prog w base (fun _ => true) true n' 41 (([v0, v1, v2, v3, v4, v5, v6].drop 6).take (Try.prog.cellsOf 41)) = xs[5]? := hf 5 _ rfl
    rw [Py.cells_i64] at f0 f1
    rw [Jo.cells_dig] at f2
    rw [cells_sgn] at f3
    rw [cells_ss] at f4
    rw [cells_bat] at f5
    simp only [List.drop_zero, List.drop_succ_cons, List.take_succ_cons, List.take_zero] at f0 f1 f2 f3 f4 f5
    obtain ⟨z0, e0, w0⟩ := one_int Try.underlying2 (by omega) f0
    obtain ⟨z1, e1, w1⟩ := one_int Try.underlying2 (by omega) f1
    obtain ⟨z2, e2, w2⟩ := one_int Try.underlying23 (by omega) f2
    rw [List.getElem?_eq_getElem (by omega)] at f3 f4 f5
    have m : ∀ (j : Nat) (t : TypeId) (ht : [2, 2, 23, 39, 24, 41][j]? = some t) (hj : j < xs.length), ∀ n ∈ (xs[j]).1.weights Try.prog t, n ≤ 140737488351232 := fun j t ht hj n hn => hR n (by
      rw [hx]
      simp only [DataW.weights, Try.underlying43]
      exact DataW.weights_mem_each (ts := [2, 2, 23, 39, 24, 41]) (j := j) (t := t) ht (by simp [List.getElem?_eq_getElem hj]) n hn)
    obtain ⟨s, e3, ws⟩ := open_sg f3
    obtain ⟨sl, hss, hsl, _⟩ := open_ss f4 (m 4 _ rfl (by omega))
    obtain ⟨bl, hbi, hbl, hby⟩ := open_batch f5 (m 5 _ rfl (by omega))
    have b0 : -9223372036854775808 ≤ z0 ∧ z0 ≤ 9223372036854775807 := by simpa [Lit.wf, IntKind.min, IntKind.max, IntKind.signed, IntKind.bits] using w0
    have b1 : -9223372036854775808 ≤ z1 ∧ z1 ≤ 9223372036854775807 := by simpa [Lit.wf, IntKind.min, IntKind.max, IntKind.signed, IntKind.bits] using w1
    simp only [List.cons.injEq, and_true] at e0 e1 e2 e3
    obtain ⟨A, c, rfl, -⟩ := id hss
    obtain ⟨A2, c2, rfl, -⟩ := hbi.shape
    refine ⟨(⟨z0, z1, z2, s, sl, bl⟩, ((A, c), (A2, c2))), ?_, ⟨hss, hbi⟩, ⟨⟨fun y hy => ?_, show bl.length ≤ 140737488355328 by omega, show sl.length ≤ 140737488355328 by omega⟩, hsl, hbl, fun y hy => (hby y hy).1⟩, b1, b0⟩
    · rw [e0, e1, e2, e3.1, e3.2]; rfl
    · have := (hby y hy).1.2.2.1; omega
theorem zip_maps {α β : Type} : ∀ l : List (α × β), (l.map (·.1)).zip (l.map (·.2)) = l
  | [] => rfl
  | e :: l => by rw [List.map_cons, List.map_cons, List.zip_cons_cons, zip_maps l]
theorem open_preps {w : World} {base fuel : Nat} {v : Value} {x : DataW H × List MemPlace} (h : DataW.trod enc Try.prog w base (fun _ => true) true fuel 47 [v] = some x) (hR : ∀ n ∈ x.1.weights Try.prog 47, n ≤ 140737488351232) :
    ∃ l : List Pd, PL w (fun k => w.heap.size ≤ k) v l ∧ l.length * 88 ≤ 140737488351232 ∧ ∀ p ∈ l, okV p ∧ wfP p := by
  obtain ⟨l, h1, h2, h3⟩ := open_gen Try.underlying47 cells_prep bytes_prep (by omega) (fun e : Pd × Pl2 => (PC e.1 e.2).toList) (fun e => PC_len e) (fun e => PI w (fun k => w.heap.size ≤ k) e.1 e.2 ∧ okV e.1 ∧ wfP e.1) (Pd.zero, ((none, 0), (none, 0))) (fun fuel cs y hy hr => open_prep hy hr) h hR
  refine ⟨l.map (·.1), ⟨l.map (·.2), ⟨by simp, fun i hi => ?_⟩, ?_⟩, by rw [List.length_map]; exact h2, fun p hp => ?_⟩
  · have hi' : i < l.length := by simpa using hi
    refine ⟨l[i].2, by rw [List.getElem?_map, List.getElem?_eq_getElem hi']; rfl, ?_⟩
    have := (h3 _ (List.getElem_mem hi')).1
    simpa using this
  · rw [List.length_map, flatP, zip_maps]
    exact h1
  · obtain ⟨e, he, rfl⟩ := List.mem_map.1 hp
    exact (h3 e he).2
end
end Go.Proofs.Ytfdhaodgnenhcaa.Ptm

/-
  Layer 16 (newview): opening view-changes under the form's own reach.
-/
namespace Go.Proofs.Ytfdhaodgnenhcaa.Nxo
set_option linter.unusedSimpArgs false
open Go Go.RowKit Go.ChangeShapes Go.WideShapes Go.ChangeAt Go.Deep Ck Kf Kp Pm Pe Py Lk Jm Ja Jb Jo Pra Prb Prr Pte Ptm Ky Nva Nvb
set_option linter.unusedVariables false
set_option maxRecDepth 100000

/-- What a view-change is of: its rows are no longer than memory is; its numbers are numbers of their kind. -/
structure okC (c : Cg) : Prop where
  signs : c.cert.signs.length * 16 ≤ 140737488351232
  above : c.above.length * 88 ≤ 140737488351232
  each : ∀ p ∈ c.above, okV p ∧ wfP p
  seq : -9223372036854775808 ≤ c.cert.seq ∧ c.cert.seq ≤ 9223372036854775807
  from_ : -9223372036854775808 ≤ c.from_ ∧ c.from_ ≤ 9223372036854775807
section
variable {H : Type} {enc : TypeId × Value → H}
theorem cells_cert : Try.prog.cellsOf 26 = 3 := by kernel_rfl
theorem cells_change : Try.prog.cellsOf 49 = 8 := by kernel_rfl
theorem bytes_change : Try.prog.bytesOf 49 = 96 := by kernel_rfl
theorem cells_preps : Try.prog.cellsOf 47 = 1 := by kernel_rfl
theorem open_cert {w : World} {base fuel : Nat} {cs : List Value} {x : DataW H × List MemPlace} (h : DataW.trod enc Try.prog w base (fun _ => true) true fuel 26 cs = some x) (hR : ∀ n ∈ x.1.weights Try.prog 26, n ≤ 140737488351232) :
    ∃ (e : Ce) (r : Option Addr × Nat), cs = [.int .i64 e.seq, .int .i64 e.dig, .slice r.1 e.signs.length r.2] ∧ SS w (fun k => w.heap.size ≤ k) (.slice r.1 e.signs.length r.2) e.signs ∧ e.signs.length * 16 ≤ 140737488351232 ∧ (-9223372036854775808 ≤ e.seq ∧ e.seq ≤ 9223372036854775807) := by
  obtain ⟨xs, n', _, hx, hl, hxl, hf⟩ := DataW.trod_struct Try.underlying26 h
  rw [cells_cert] at hl
  have hxl' : xs.length = 3 := hxl
  match cs, hl with
  | [v0, v1, v2], _ =>
    have f0 : DataW.trod enc Try.prog w base (fun _ => true) true n' 2 (([v0, v1, v2].drop 0).take (Try.prog.cellsOf 2)) = xs[0]? := hf 0 _ rfl
    have f1 : DataW.trod enc Try.prog w base (fun _ => true) true n' 23 (([v0, v1, v2].drop 1).take (Try.prog.cellsOf 23)) = xs[1]? := hf 1 _ rfl
    have f2 : DataW.trod enc Try.prog w base (fun _ => true) true n' 24 (([v0, v1, v2].drop 2).take (Try.prog.cellsOf 24)) = xs[2]? := hf 2 _ rfl
    rw [Py.cells_i64] at f0
    rw [Jo.cells_dig] at f1
    rw [cells_ss] at f2
    simp only [List.drop_zero, List.drop_succ_cons, List.take_succ_cons, List.take_zero] at f0 f1 f2
    obtain ⟨z0, e0, w0⟩ := one_int Try.underlying2 (by omega) f0
    obtain ⟨z1, e1, w1⟩ := one_int Try.underlying23 (by omega) f1
    rw [List.getElem?_eq_getElem (by omega)] at f2
    obtain ⟨sl, hss, hsl, _⟩ := open_ss f2 (fun n hn => hR n (by
      rw [hx]
      simp only [DataW.weights, Try.underlying26]
      exact DataW.weights_mem_each (ts := [2, 23, 24]) (j := 2) (t := 24) rfl (by simp [List.getElem?_eq_getElem (show 2 < xs.length by omega)]) n hn))
    have b0 : -9223372036854775808 ≤ z0 ∧ z0 ≤ 9223372036854775807 := by simpa [Lit.wf, IntKind.min, IntKind.max, IntKind.signed, IntKind.bits] using w0
    simp only [List.cons.injEq, and_true] at e0 e1
    obtain ⟨A, c, rfl, -⟩ := id hss
    refine ⟨⟨z0, z1, sl⟩, (A, c), ?_, hss, hsl, b0⟩
    rw [e0, e1]
theorem open_change {w : World} {base fuel : Nat} {cs : List Value} {x : DataW H × List MemPlace} (h : DataW.trod enc Try.prog w base (fun _ => true) true fuel 49 cs = some x) (hR : ∀ n ∈ x.1.weights Try.prog 49, n ≤ 140737488351232) :
    ∃ e : Cg × Pl2, cs = (CC e.1 e.2).toList ∧ CgI w (fun k => w.heap.size ≤ k) e.1 e.2 ∧ okC e.1 := by
  obtain ⟨xs, n', _, hx, hl, hxl, hf⟩ := DataW.trod_struct Try.underlying49 h
  rw [cells_change] at hl
  have hxl' : xs.length = 5 := hxl
  match cs, hl with
  | [v0, v1, v2, v3, v4, v5, v6, v7], _ =>
    have f0 : DataW.trod enc Try.prog w base (fun _ => true) true n' 2 (([v0, v1, v2, v3, v4, v5, v6, v7].drop 0).take (Try.prog.cellsOf 2)) = xs[0]? := hf 0 _ rfl
    have f1 : DataW.trod enc Try.prog w base (fun _ => true) true n' 3 (([v0, v1, v2, v3, v4, v5, v6, v7].drop 1).take (Try.prog.cellsOf 3)) = xs[1]? := hf 1 _ rfl
    have f2 : DataW.trod enc Try.prog w base (fun _ => true) true n' 26 (([v0, v1, v2, v3, v4, v5, v6, v7].drop 2).take (Try.prog.cellsOf 26)) = xs[2]? := hf 2 _ rfl
    have f3 : DataW.trod enc Try.prog w base (fun _ => true) true n' 47 (([v0, v1, v2, v3, v4, v5, v6, v7].drop 5).take (Try.prog.cellsOf 47)) = xs[3]? := hf 3 _ rfl
    have f4 : DataW.trod enc Try.prog w base (fun _ => true) true n' 39 (([v0, v1, v2, v3, v4, v5, v6, v7].drop 6).take (Try.prog.cellsOf 39)) = xs[4]? := hf 4 _ rfl
    have ci : Try.prog.cellsOf 3 = 1 := by kernel_rfl
    rw [Py.cells_i64] at f0
    rw [ci] at f1
    rw [cells_cert] at f2
    rw [cells_preps] at f3
    rw [cells_sgn] at f4
    simp only [List.drop_zero, List.drop_succ_cons, List.take_succ_cons, List.take_zero] at f0 f1 f2 f3 f4
    obtain ⟨z0, e0, w0⟩ := one_int Try.underlying2 (by omega) f0
    obtain ⟨z1, e1, w1⟩ := one_int Try.underlying3 (by omega) f1
    rw [List.getElem?_eq_getElem (by omega)] at f2 f3 f4
    have m : ∀ (j : Nat) (t : TypeId) (ht : [2, 3, 26, 47, 39][j]? = some t) (hj : j < xs.length), ∀ n ∈ (xs[j]).1.weights Try.prog t, n ≤ 140737488351232 := fun j t ht hj n hn => hR n (by
      rw [hx]
      simp only [DataW.weights, Try.underlying49]
      exact DataW.weights_mem_each (ts := [2, 3, 26, 47, 39]) (j := j) (t := t) ht (by simp [List.getElem?_eq_getElem hj]) n hn)
    obtain ⟨ce, r, e2, hss, hsl, hsq⟩ := open_cert f2 (m 2 _ rfl (by omega))
    obtain ⟨al, hal, hll, hok⟩ := open_preps f3 (m 3 _ rfl (by omega))
    obtain ⟨s, e4, ws⟩ := open_sg f4
    have b1 : -9223372036854775808 ≤ z1 ∧ z1 ≤ 9223372036854775807 := by simpa [Lit.wf, IntKind.min, IntKind.max, IntKind.signed, IntKind.bits] using w1
    simp only [List.cons.injEq, and_true] at e0 e1 e2 e4
    obtain ⟨A2, c2, rfl, -⟩ := GL.shape (PL.gl.1 hal)
    refine ⟨(⟨z0, z1, ce, al, s⟩, (r, (A2, c2))), ?_, ⟨hss, hal⟩, ⟨hsl, hll, hok, hsq, b1⟩⟩
    rw [e0, e1, e2.1, e2.2.1, e2.2.2, e4.1, e4.2]
    rfl
theorem open_changes {w : World} {base fuel : Nat} {v : Value} {x : DataW H × List MemPlace} (h : DataW.trod enc Try.prog w base (fun _ => true) true fuel 22 [v] = some x) (hR : ∀ n ∈ x.1.weights Try.prog 22, n ≤ 140737488351232) :
    ∃ l : List Cg, CgL w (fun k => w.heap.size ≤ k) v l ∧ l.length * 96 ≤ 140737488351232 ∧ ∀ c ∈ l, okC c := by
  obtain ⟨l, h1, h2, h3⟩ := open_gen Try.underlying22 cells_change bytes_change (by omega) (fun e : Cg × Pl2 => (CC e.1 e.2).toList) (fun e => rfl) (fun e => CgI w (fun k => w.heap.size ≤ k) e.1 e.2 ∧ okC e.1) (⟨0, 0, Ce.zero, [], (0, 0)⟩, ((none, 0), (none, 0))) (fun fuel cs y hy hr => open_change hy hr) h hR
  refine ⟨l.map (·.1), ⟨l.map (·.2), ⟨by simp, fun i hi => ?_⟩, ?_⟩, by rw [List.length_map]; exact h2, fun p hp => ?_⟩
  · have hi' : i < l.length := by simpa using hi
    refine ⟨l[i].2, by rw [List.getElem?_map, List.getElem?_eq_getElem hi']; rfl, ?_⟩
    have := (h3 _ (List.getElem_mem hi')).1
    rw [List.getElem_map]
    exact this
  · rw [List.length_map, flatG, zip_maps]
    exact h1
  · obtain ⟨e, he, rfl⟩ := List.mem_map.1 hp
    exact (h3 e he).2
end
end Go.Proofs.Ytfdhaodgnenhcaa.Nxo

/-
  Layer 16 (newview): the document's latest: what was prepared last for a number.
-/

namespace Go.Proofs.Ytfdhaodgnenhcaa.Nwa
set_option linter.unusedSimpArgs false
open Go Go.RowKit Cm Ck Kw Ga Kf Jm Jb Pra Prb Ky Nva Nvb Nve
attribute [local go_sem ↓] Go.wp_at_zero Go.wp_at_succ
set_option linter.unusedVariables false
set_option maxRecDepth 100000

theorem fblk7 {w : World} {g : Nat} {t : TypeId} {a0 a1 a2 a3 a4 a5 a6 x0 x1 x2 x3 x4 x5 x6 : Value} (h : Blk w g t #[a0, a1, a2, a3, a4, a5, a6]) : Blk ((((((((w).setCell ⟨g, 0, none⟩ x0).setCell ⟨g, 1, none⟩ x1).setCell ⟨g, 2, none⟩ x2).setCell ⟨g, 3, none⟩ x3).setCell ⟨g, 4, none⟩ x4).setCell ⟨g, 5, none⟩ x5).setCell ⟨g, 6, none⟩ x6) g t #[x0, x1, x2, x3, x4, x5, x6] := by
  have := (((((((h).set_ 0 x0).set_ 1 x1).set_ 2 x2).set_ 3 x3).set_ 4 x4).set_ 5 x5).set_ 6 x6
  simpa using this
theorem fch7 (w : World) (g : Nat) (x0 x1 x2 x3 x4 x5 x6 : Value) : Ch (fun k => k = g) w ((((((((w).setCell ⟨g, 0, none⟩ x0).setCell ⟨g, 1, none⟩ x1).setCell ⟨g, 2, none⟩ x2).setCell ⟨g, 3, none⟩ x3).setCell ⟨g, 4, none⟩ x4).setCell ⟨g, 5, none⟩ x5).setCell ⟨g, 6, none⟩ x6) := (((((((Ch.refl (fun k => k = g) w).setCell (p := ⟨g, 0, none⟩) (fun _ => rfl) x0).setCell (p := ⟨g, 1, none⟩) (fun _ => rfl) x1).setCell (p := ⟨g, 2, none⟩) (fun _ => rfl) x2).setCell (p := ⟨g, 3, none⟩) (fun _ => rfl) x3).setCell (p := ⟨g, 4, none⟩) (fun _ => rfl) x4).setCell (p := ⟨g, 5, none⟩) (fun _ => rfl) x5).setCell (p := ⟨g, 6, none⟩) (fun _ => rfl) x6
/-- Where the search stands: what was found lies in block B. -/
structure Fnd (w : World) (X : Nat → Prop) (B : Nat) (a : Value) (o : Option Pd) (W : World) : Prop where
  blk : ∃ r, Blk W B 43 (PC (o.getD Pd.zero) r) ∧ PI w X (o.getD Pd.zero) r
  any : a = .bool o.isSome
  bel : Below B w W
  big : B < W.heap.size
theorem pi_zero (w : World) (X : Nat → Prop) : PI w X Pd.zero ((none, 0), (none, 0)) := ⟨Sl.nil _ _ _, bi_nil _ _⟩
theorem Fnd.same {w : World} {X : Nat → Prop} {B : Nat} {a : Value} {o o' : Option Pd} {W W' : World} (h : Fnd w X B a o W) (b : Below W.heap.size W W') (e : o' = o) : Fnd w X B a o' W' := by
  subst e
  obtain ⟨⟨r, h1, h2⟩, h3, h4, h5⟩ := h
  exact ⟨⟨r, h1.below b h5, h2⟩, h3, h4.trans (b.mono (by omega)), by have := b.size; omega⟩
set_option maxHeartbeats 4000000 in
theorem rlatest_any (w : World) (X : Nat → Prop) (v : Value) (l : List Cg) (s : Int) (h : CgL w X v l) (hl : l.length ≤ 140737488355328) (ha : ∀ c ∈ l, c.above.length ≤ 140737488355328) :
    Calls Try.prog 26 #[v, .int .i64 s] w fun e w' => ∃ r : Option Addr × Nat, e = .returned (.slice r.1 (batchO (latC s none l)).length r.2) ∧ BI w X (.slice r.1 (batchO (latC s none l)).length r.2) (batchO (latC s none l)) ∧ Below w.heap.size w w' := by
  obtain ⟨A, c, rfl, hc⟩ := h.shape
  have HP := Lib.hid h
  have HA := Lib.hid ha
  have hzv : ∀ W : World, (zeroValue 43).run Try.prog W = .ok (.agg #[.int .i64 0, .int .i64 0, .int .i64 0, .int .i64 0, .int .i64 0, .slice none 0 0, .slice none 0 0]) W := fun W => by kernel_rfl
  clear h hc ha
  go_enter Try.func26, Try.ntmps26
  go_wp2_with fail
  have HF : Hid (Fnd w X w.heap.size (.bool false) none (w.alloc (.cells #[.int .i64 0, .int .i64 0, .int .i64 0, .int .i64 0, .int .i64 0, .slice none 0 0, .slice none 0 0] 43))) := Lib.hid ⟨⟨((none, 0), (none, 0)), Blk.new w _ _, pi_zero w X⟩, rfl, (Below.refl _ w).alloc (Nat.le_refl _) _, by simp⟩
  generalize (w.alloc (.cells #[.int .i64 0, .int .i64 0, .int .i64 0, .int .i64 0, .int .i64 0, .slice none 0 0, .slice none 0 0] 43)) = w0 at *
  go_loopw [6, 7] (fun a i wr => ∃ k : Nat, k ≤ l.length ∧ i = .int .i64 k ∧ Fnd w X w.heap.size a (latC s none (l.take k)) wr) (fun _ i _ => l.length - (intOf i).toNat)
  case atStart => exact ⟨0, Nat.zero_le _, rfl, HF.out⟩
  case round =>
    obtain ⟨k, hk, rfl, hf⟩ := hrel
    by_cases hlt : k < l.length
    · obtain ⟨ad, r, rfl, hat, hci, hbl, hXb⟩ := HP.out.at_ hlt (by decide)
      have hat : AtG kC w (ad.add (k * 8)) l[k] r := hat
      have HATX : Hid (∀ W, Below w.heap.size w W → W.cell? ⟨(ad.add (k * 8)).block, (ad.add (k * 8)).off + 5, none⟩ = some (.slice r.2.1 l[k].above.length r.2.2)) := Lib.hid fun W b => (at_change (hat.later b)).2.2.2.2.2.1
      have HPL := Lib.hid hci.above
      have hkp : (0 : Int) ≤ (k : Int) := by omega
      have hkl : (k : Int) < (l.length : Int) := by omega
      have HC := Lib.hid (latC_step s none hlt)
      have hal := HA.out l[k] (List.getElem_mem hlt)
      have HFN := Lib.hid hf
      have a5 := HATX.out wr hf.bel
      generalize l[k].above = P at *
      generalize latC s none (l.take k) = o at *
      clear hat hci hf hbl hXb
      go_wp2_with fail
      go_loopw [6, 8] (fun a j wx => ∃ m : Nat, m ≤ P.length ∧ j = .int .i64 m ∧ Fnd w X w.heap.size a (latP s o (P.take m)) wx) (fun _ j _ => P.length - (intOf j).toNat)
      case atStart => exact ⟨0, Nat.zero_le _, rfl, HFN.out⟩
      case round =>
        clear a5
        obtain ⟨m, hm, rfl, hg⟩ := hrel
        have a5 := HATX.out _ hg.bel
        by_cases hml : m < P.length
        · obtain ⟨ap, rp, hAp, hap, hpi⟩ := HPL.out.at_ hml
          rw [hAp] at a5
          obtain ⟨b0, b1, b2, b3, b4, b5, b6⟩ := hap.later hg.bel
          have HPI := Lib.hid hpi
          have HS := Lib.hid (latP_step s o hml)
          have hmp : (0 : Int) ≤ (m : Int) := by omega
          have hmi : (m : Int) < (P.length : Int) := by omega
          have HG := Lib.hid hg
          obtain ⟨⟨rq, hblk, hpq⟩, rfl, hbel, hbig⟩ := hg
          generalize P[m] = p at *
          generalize latP s o (P.take m) = q at *
          clear hpi hap hml
          have HBW := Lib.hid (fun t => (Below.refl wr.heap.size wr).alloc (Nat.le_refl _) (.cells (PC p rp) t))
          have hbk : Blk (wr.alloc (.cells (PC p rp) 43)) wr.heap.size 43 (PC p rp) := Blk.new wr _ _
          have hbo := hblk.alloc (.cells (PC p rp) 43)
          have HBZ := Lib.hid (HBW.out 43)
          unfold PC at HBW hbk
          go_upto_region 10 with fail
          have hbo2 : Blk (wr.alloc (.cells (PC p rp) 43)) w.heap.size 43 (PC (q.getD Pd.zero) rq) := hbo
          unfold PC at hbo2 HBZ
          clear hbo HBW
          generalize (wr.alloc (.cells #[.int .i64 p.view, .int .i64 p.seq, .int .i64 p.dig, .int .i64 p.first.1, .int .i64 p.first.2, .slice rp.1.1 p.signs.length rp.1.2, .slice rp.2.1 p.batch.length rp.2.2] 43)) = W1 at *
          have HT : Hid (¬ p.seq = s → Fnd w X w.heap.size (.bool q.isSome) (latP s o (P.take (m + 1))) W1) := Lib.hid (fun h => HG.out.same HBZ.out (by rw [HS.out, latS_other h]))
          have HV : Hid (∀ q0, q = some q0 → ¬ q0.view < p.view → Fnd w X w.heap.size (.bool q.isSome) (latP s o (P.take (m + 1))) W1) := Lib.hid (fun q0 e h => HG.out.same HBZ.out (by rw [HS.out, e, latS_less h]))
          have HEND : Hid (latS s q p = some p → ∀ W2, Blk W2 w.heap.size 43 (PC p rp) → Ch (fun k => k = w.heap.size) W1 W2 → Fnd w X w.heap.size (.bool true) (latP s o (P.take (m + 1))) W2) := Lib.hid fun h3 W2 h1 h2 => by
            rw [HS.out, h3]
            exact ⟨⟨rp, h1, HPI.out⟩, rfl, (hbel.trans (HBZ.out.mono (by omega))).trans (h2.below (fun k hk e => by omega) (by have := HBZ.out.size; omega)), h1.lt⟩
          have HB2 := Lib.hid hbo2
          have f0 := hbo2.frozen 0
          have f1 := hbo2.frozen 1
          have f2 := hbo2.frozen 2
          have f3 := hbo2.frozen 3
          have f4 := hbo2.frozen 4
          have f5 := hbo2.frozen 5
          have f6 := hbo2.frozen 6
          have k0 := hbo2.cell 0
          have k1 := hbo2.cell 1
          have k2 := hbo2.cell 2
          have k3 := hbo2.cell 3
          have k4 := hbo2.cell 4
          have k5 := hbo2.cell 5
          have k6 := hbo2.cell 6
          have p0 := hbk.cell 0
          have p1 := hbk.cell 1
          have p2 := hbk.cell 2
          have p3 := hbk.cell 3
          have p4 := hbk.cell 4
          have p5 := hbk.cell 5
          have p6 := hbk.cell 6
          simp only [List.getElem?_toArray, List.getElem?_cons_zero, List.getElem?_cons_succ] at k0 k1 k2 k3 k4 k5 k6 p0 p1 p2 p3 p4 p5 p6
          clear hbo2 hbk hblk hpq HG HS HBZ b0 b1 b2 b3 b4 b5 b6 a5
          by_cases hx : p.seq = s
          · have e1 : (p.seq == s) = true := by simp [hx]
            clear HT
            cases q with
            | none =>
              have HE := Lib.hid (HEND.out (latS_first hx))
              clear HEND hx HV
              go_wp2_with fail
              go_roundw
              case rel => exact ⟨m + 1, by omega, by go_num, HE.out _ (fblk7 HB2.out) (fch7 _ _ _ _ _ _ _ _ _)⟩
              case measure => simp [intOf]; omega
            | some q0 =>
              simp only [Option.getD_some] at k0 k1 k2 k3 k4 k5 k6
              by_cases hv : q0.view < p.view
              · have HE := Lib.hid (HEND.out (latS_more hx hv))
                clear HEND hx HV
                go_wp2_with fail
                go_roundw
                case rel => exact ⟨m + 1, by omega, by go_num, HE.out _ (fblk7 HB2.out) (fch7 _ _ _ _ _ _ _ _ _)⟩
                case measure => simp [intOf]; omega
              · have HE := Lib.hid (HV.out q0 rfl hv)
                clear HEND hx HV
                go_wp2_with fail
                go_roundw
                case rel => exact ⟨m + 1, by omega, by go_num, HE.out⟩
                case measure => simp [intOf]; omega
          · have e1 : (p.seq == s) = false := by rw [beq_eq_false_iff_ne]; exact hx
            have HE := Lib.hid (HT.out hx)
            clear HEND hx HV HT
            go_wp2_with fail
            go_roundw
            case rel => exact ⟨m + 1, by omega, by go_num, HE.out⟩
            case measure => simp [intOf]; omega
        · have hme : m = P.length := by omega
          subst hme
          rw [List.take_length] at hg
          have HE : Hid (Fnd w X w.heap.size _ (latC s none (l.take (k + 1))) _) := Lib.hid (hg.same (Below.refl _ _) HC.out)
          clear hg
          go_wp2_with fail
          go_roundw
          case rel => exact ⟨k + 1, by omega, by go_num, HE.out⟩
          case measure => simp [intOf]; omega
    · have hke : k = l.length := by omega
      subst hke
      rw [List.take_length] at hf
      obtain ⟨⟨rq, hblk, hpq⟩, rfl, hbel, hbig⟩ := hf
      have c5 := hblk.cell 5
      have c6 := hblk.cell 6
      simp only [PC, List.getElem?_toArray, List.getElem?_cons_zero, List.getElem?_cons_succ] at c5 c6
      have HPQ := Lib.hid hpq
      have HBL := Lib.hid hbel
      have HBO : Hid (∀ o : Option Pd, (o.getD Pd.zero).batch = batchO o) := Lib.hid (fun o => by cases o <;> rfl)
      rw [HBO.out] at c6
      clear hblk hpq hbel
      go_wp2_with fail
      go_ret
      exact ⟨rq.2, rfl, by have := HPQ.out.batch; rwa [HBO.out] at this, HBL.out⟩
end Go.Proofs.Ytfdhaodgnenhcaa.Nwa

/-
  Layer 16 (newview): the document's Select: its early ways out.
-/
namespace Go.Proofs.Ytfdhaodgnenhcaa.Nwc
set_option linter.unusedSimpArgs false
open Go Go.RowKit Cm Ck Kw Ga Kf Jm Jb Pra Prb Prh Ky Nva Nvb Nve
attribute [local go_sem ↓] Go.wp_at_zero Go.wp_at_succ
set_option linter.unusedVariables false
set_option maxRecDepth 100000

theorem results_row_tmp2 {P : Program} {fn : Func} {p q r : Tmp} {ty : TypeId} (h : fn.results = #[.cell p ty, .tmp q, .tmp r]) (tmps : Array Value) (w : World) (g : Nat) (t : TypeId) (cs : Array Value) (fr : Nat × Nat) (d : TypeDesc)
    (hp : tmps.getD p undef = .pointer (some ⟨g, 0, none⟩)) (hg : w.heap[g]? = some (.cells cs t fr))
    (hu : P.underlying ty = some d) (hd : (match d with | .struct _ | .array _ _ => true | _ => false) = true) (hi : (P.info? ty).map (·.size) = some cs.size) :
    (results fn tmps).run P w = .ok (.tuple #[.agg cs, tmps.getD q undef, tmps.getD r undef]) w := by
  have hp' : tmps[p]?.getD undef = .pointer (some ⟨g, 0, none⟩) := by simpa using hp
  simp [results, h, hp', asAddr, run_loadVar_row w g t ty cs fr d hg hu hd hi]
theorem size_cert : (Try.prog.info? 26).map (·.size) = some 3 := by kernel_rfl
theorem blk3 {w : World} {g : Nat} {t : TypeId} {a0 a1 a2 x0 x1 x2 : Value} (h : Blk w g t #[a0, a1, a2]) : Blk ((((w).setCell ⟨g, 0, none⟩ x0).setCell ⟨g, 1, none⟩ x1).setCell ⟨g, 2, none⟩ x2) g t #[x0, x1, x2] := by
  have := (((h).set_ 0 x0).set_ 1 x1).set_ 2 x2
  simpa using this
theorem ch3 (w : World) (g : Nat) (x0 x1 x2 : Value) : Ch (fun k => k = g) w ((((w).setCell ⟨g, 0, none⟩ x0).setCell ⟨g, 1, none⟩ x1).setCell ⟨g, 2, none⟩ x2) := (((Ch.refl (fun k => k = g) w).setCell (p := ⟨g, 0, none⟩) (fun _ => rfl) x0).setCell (p := ⟨g, 1, none⟩) (fun _ => rfl) x1).setCell (p := ⟨g, 2, none⟩) (fun _ => rfl) x2
/-- No answer but an error. -/
def Fails (w : World) (n : Int) (e : Ending) (w' : World) : Prop := e = .returned (.tuple #[.agg #[.int .i64 0, .int .i64 0, .slice none 0 0], .slice none 0 0, .int .i64 n]) ∧ Below w.heap.size w w'
set_option maxHeartbeats 2000000 in
theorem rselect_f (w : World) (f view : Int) (v : Value) (h : okF f = false) : Calls Try.prog 7 #[.int .i64 f, .int .i64 view, v] w (Fails w 120) := by
  have HC := Lib.hid (fun W => rcheck_any W f)
  have hcp : Hid (checkP f = 120) := Lib.hid (by simp [checkP, h])
  have hzv : ∀ W : World, (zeroValue 26).run Try.prog W = .ok (.agg #[.int .i64 0, .int .i64 0, .slice none 0 0]) W := fun W => by kernel_rfl
  clear h
  go_enter Try.func7, Try.ntmps7
  go_upto_region 1 with fail
  have HBK : Hid (Blk (w.alloc (.cells #[.int .i64 0, .int .i64 0, .slice none 0 0] 26)) w.heap.size 26 #[.int .i64 0, .int .i64 0, .slice none 0 0]) := Lib.hid (Blk.new w _ _)
  have HB0 : Hid (Below w.heap.size w (w.alloc (.cells #[.int .i64 0, .int .i64 0, .slice none 0 0] 26))) := Lib.hid ((Below.refl _ w).alloc (Nat.le_refl _) _)
  have HZ : Hid ((w.alloc (.cells #[.int .i64 0, .int .i64 0, .slice none 0 0] 26)).heap.size = w.heap.size + 1) := Lib.hid (by simp)
  generalize (w.alloc (.cells #[.int .i64 0, .int .i64 0, .slice none 0 0] 26)) = w0 at *
  have f0 := HBK.out.frozen 0
  have f1 := HBK.out.frozen 1
  have f2 := HBK.out.frozen 2
  have k0 := HBK.out.cell 0
  have k1 := HBK.out.cell 1
  have k2 := HBK.out.cell 2
  simp only [List.getElem?_toArray, List.getElem?_cons_zero, List.getElem?_cons_succ] at k0 k1 k2
  go_wp2_with (go_at_call 11; refine (HC.out _).mono ?_; rintro e w1 ⟨rfl, rfl⟩; rw [hcp.out])
  refine bodyPost_ret (results_row_tmp2 rfl _ _ w.heap.size 26 #[.int .i64 0, .int .i64 0, .slice none 0 0] (0, 0) _ rfl (blk3 HBK.out) Try.underlying26 rfl size_cert) rfl ?_
  exact ⟨rfl, HB0.out.trans ((ch3 _ w.heap.size _ _ _).below (fun k hk e => by omega) (by rw [HZ.out]; omega))⟩
set_option maxHeartbeats 2000000 in
theorem rselect_low (w : World) (f view : Int) (v : Value) (h : okF f = true) (hv : view < 1) : Calls Try.prog 7 #[.int .i64 f, .int .i64 view, v] w (Fails w 1) := by
  have HC := Lib.hid (fun W => rcheck_any W f)
  have hcp : Hid (checkP f = 0) := Lib.hid (by simp [checkP, h])
  have hzv : ∀ W : World, (zeroValue 26).run Try.prog W = .ok (.agg #[.int .i64 0, .int .i64 0, .slice none 0 0]) W := fun W => by kernel_rfl
  clear h
  go_enter Try.func7, Try.ntmps7
  go_upto_region 1 with fail
  have HBK : Hid (Blk (w.alloc (.cells #[.int .i64 0, .int .i64 0, .slice none 0 0] 26)) w.heap.size 26 #[.int .i64 0, .int .i64 0, .slice none 0 0]) := Lib.hid (Blk.new w _ _)
  have HB0 : Hid (Below w.heap.size w (w.alloc (.cells #[.int .i64 0, .int .i64 0, .slice none 0 0] 26))) := Lib.hid ((Below.refl _ w).alloc (Nat.le_refl _) _)
  have HZ : Hid ((w.alloc (.cells #[.int .i64 0, .int .i64 0, .slice none 0 0] 26)).heap.size = w.heap.size + 1) := Lib.hid (by simp)
  generalize (w.alloc (.cells #[.int .i64 0, .int .i64 0, .slice none 0 0] 26)) = w0 at *
  have f0 := HBK.out.frozen 0
  have f1 := HBK.out.frozen 1
  have f2 := HBK.out.frozen 2
  have k0 := HBK.out.cell 0
  have k1 := HBK.out.cell 1
  have k2 := HBK.out.cell 2
  simp only [List.getElem?_toArray, List.getElem?_cons_zero, List.getElem?_cons_succ] at k0 k1 k2
  go_wp2_with (go_at_call 11; refine (HC.out _).mono ?_; rintro e w1 ⟨rfl, rfl⟩; rw [hcp.out])
  refine bodyPost_ret (results_row_tmp2 rfl _ _ w.heap.size 26 #[.int .i64 0, .int .i64 0, .slice none 0 0] (0, 0) _ rfl (blk3 HBK.out) Try.underlying26 rfl size_cert) rfl ?_
  exact ⟨rfl, HB0.out.trans ((ch3 _ w.heap.size _ _ _).below (fun k hk e => by omega) (by rw [HZ.out]; omega))⟩
set_option maxHeartbeats 2000000 in
theorem rselect_high (w : World) (f view : Int) (v : Value) (h : okF f = true) (hv : ¬ view < 1) (hv2 : 9007199254740992 < view) : Calls Try.prog 7 #[.int .i64 f, .int .i64 view, v] w (Fails w 1) := by
  have HC := Lib.hid (fun W => rcheck_any W f)
  have hcp : Hid (checkP f = 0) := Lib.hid (by simp [checkP, h])
  have hzv : ∀ W : World, (zeroValue 26).run Try.prog W = .ok (.agg #[.int .i64 0, .int .i64 0, .slice none 0 0]) W := fun W => by kernel_rfl
  clear h
  go_enter Try.func7, Try.ntmps7
  go_upto_region 1 with fail
  have HBK : Hid (Blk (w.alloc (.cells #[.int .i64 0, .int .i64 0, .slice none 0 0] 26)) w.heap.size 26 #[.int .i64 0, .int .i64 0, .slice none 0 0]) := Lib.hid (Blk.new w _ _)
  have HB0 : Hid (Below w.heap.size w (w.alloc (.cells #[.int .i64 0, .int .i64 0, .slice none 0 0] 26))) := Lib.hid ((Below.refl _ w).alloc (Nat.le_refl _) _)
  have HZ : Hid ((w.alloc (.cells #[.int .i64 0, .int .i64 0, .slice none 0 0] 26)).heap.size = w.heap.size + 1) := Lib.hid (by simp)
  generalize (w.alloc (.cells #[.int .i64 0, .int .i64 0, .slice none 0 0] 26)) = w0 at *
  have f0 := HBK.out.frozen 0
  have f1 := HBK.out.frozen 1
  have f2 := HBK.out.frozen 2
  have k0 := HBK.out.cell 0
  have k1 := HBK.out.cell 1
  have k2 := HBK.out.cell 2
  simp only [List.getElem?_toArray, List.getElem?_cons_zero, List.getElem?_cons_succ] at k0 k1 k2
  go_wp2_with (go_at_call 11; refine (HC.out _).mono ?_; rintro e w1 ⟨rfl, rfl⟩; rw [hcp.out])
  refine bodyPost_ret (results_row_tmp2 rfl _ _ w.heap.size 26 #[.int .i64 0, .int .i64 0, .slice none 0 0] (0, 0) _ rfl (blk3 HBK.out) Try.underlying26 rfl size_cert) rfl ?_
  exact ⟨rfl, HB0.out.trans ((ch3 _ w.heap.size _ _ _).below (fun k hk e => by omega) (by rw [HZ.out]; omega))⟩
end Go.Proofs.Ytfdhaodgnenhcaa.Nwc
