import Derived.Test.YtmhmnkpaijoaaaaGreatShelf
import Derived.Shelf.SlSortCmp.NoneTotal
import Derived.Test.YtmhmnkpaijoaaaaGreatS09
namespace Go.Proofs.YtmhmnkpaijoaaaaGreat.Puf
set_option linter.unusedSimpArgs false
open Go Go.RowKit Go.Shelf Ck Cf Kw Ga Kf Pm Pe Pg Ik Lk Jm Ja Jb Jf Jg Jl Jn Kc Kj Pra Prb Prc Prd Pre Prf Prn Prr Prx Psg Psh Psx Pta Ptd Pte Pth Pua Kr Kv Pue
attribute [local go_sem ↓] Go.wp_at_zero Go.wp_at_succ
attribute [local go_sem] Oper.semAt_some
set_option linter.unusedVariables false
set_option maxRecDepth 100000
abbrev VF (g : Nat) : Value := .func (.func 134) #[] #[.pointer (some ⟨g, 0, none⟩)]
theorem values_any (w : World) (m : Nat) : Calls Tryz.prog 116 #[.map (some m)] w fun e w' => e = .returned (VF w.heap.size) /\ w' = w.alloc (.cells #[.map (some m)] 99) := by
  go_enter Tryz.func116, Tryz.ntmps116
  go_wp2_with fail
  go_ret
  exact ⟨rfl, rfl⟩
set_option maxHeartbeats 4000000 in
theorem values_seq (n : Nat) (hn : 2 <= n) (S X : Nat -> Prop) (w : World) (Bm m nn : Nat) (D : DataW Value) (l : List Pd) (hB : Blk w Bm 99 #[.map (some m)]) (hBS : ¬ S Bm) (ho : w.ownsMap Tryz.prog 2 RV m nn D) (hmS : ¬ S m) (hd : DL w X D l) :
    SeqL Fence.wide n Tryz.prog 134 #[.pointer (some ⟨Bm, 0, none⟩)] 1 l.length ArgP (All D l) S w := by
  intro l' J Jx W hW hsz hno hJ hJx hY h0
  have cB : W.cell? ⟨Bm, 0, none⟩ = some (.map (some m)) := (hB.below hW hB.lt).cell 0
  have hoW : W.ownsMap Tryz.prog 2 RV m nn D := map_ch ho (Ch.of_below (S := fun _ => False) hW (Nat.le_refl _)) (fun h => h)
  have hml := hoW.lt
  have HJ := Lib.hid hJ
  have HY := Lib.hid hY
  have HNO := Lib.hid hno
  have HMS := Lib.hid hmS
  have HD := Lib.hid hd
  have HC0 := Lib.hid (Come.start hd)
  clear hB ho hJ hJx hY hno hmS hd
  refine callsIn_of_wp Tryz.func134 rfl trivial ?_ rfl
  simp only [Tryz.ntmps134, List.size_toArray, List.length_cons, List.length_nil, Nat.reduceAdd, Nat.reduceSub, Array.replicate_succ, Array.replicate_zero, List.push_toArray, List.append_toArray, List.nil_append, List.cons_append]
  gi_wp2_with (first
    | (gi_at_range; refine wpListIn_range_own _ rfl _ 99 rfl 2 41 law_i64 Tryz.underlying99 _ m nn _ rfl hoW ?_; intro w0 hrg0 hg0 hs0)
    | gi_in)
  have hc0 : Ch (fun q => W.heap.size <= q /\ q < W.heap.size + 1) W w0 := Ch.of_grown hg0 (fun g hg _ => by cases hg)
  have hcS : Ch S W w0 := Ch.of_grown hg0 (fun g hg _ => by cases hg)
  have hJ0 := HJ.out [] W w0 h0 hc0
  clear hg0 hc0 cB h0
  go_frame
  gi_loopw [4] (fun _ wr => ∃ (left : Lit -> Bool) (cnt : Nat) (ps : List PR), wr.ranges Tryz.prog 2 RV m W.heap.size nn D left cnt /\ Come D l left ps /\ J ps wr /\ Ch S W wr /\ W.heap.size + 1 <= wr.heap.size)
    (fun _ wr => wr.rangeLeft m W.heap.size)
  case atStart => exact ⟨_, _, [], hrg0, HC0.out, hJ0, hcS, by omega⟩
  case round =>
    obtain ⟨left, cnt, ps, hrg, hC, hJs, hcs, hsr⟩ := hrel
    gi_wp2_with (first
      | (gi_at_next; refine wpListIn_next_preps _ rfl _ rfl m W.heap.size nn D left cnt HD.out rfl hrg ?_ ?_)
      | gi_in)
    . intro hl0
      have hA := hC.all hl0
      gi_wp2
      go_end0
      exact ⟨⟨_, rfl⟩, hcs, .inl ⟨ps, hA, hJs⟩⟩
    . intro p qa qc qb qd w2 cnt2 hgp hlk hat hpi hrg2 hlt hg2 hs2 hen
      have hc2 : Ch (fun k => W.heap.size <= k /\ k < W.heap.size + 1) wr w2 := Ch.of_grown hg2 (fun g hg _ => by have := Option.some.inj hg; omega)
      have hJ2 : J ps w2 := HJ.out ps wr w2 hJs hc2
      have hcs2 : Ch S W w2 := hcs.trans hc2 (fun k hk h => by omega)
      have hC2 := hC.step hlk hgp rfl hat
      have hlen := len_le hC2.nod (fun x hx => (hC2.mem x hx).1)
      have HC2 := Lib.hid hC2
      have HLT := Lib.hid (And.intro hlt hrg)
      have HS2 := Lib.hid hs2
      have HRG2 := Lib.hid hrg2
      have HJ2 := Lib.hid (And.intro hJ2 (And.intro hcs2 (And.intro hJs (And.intro hcs hc2))))
      have HLE : Hid (ps.length < l.length) := Lib.hid (by simp only [List.length_append, List.length_cons, List.length_nil] at hlen; omega)
      have HSR := Lib.hid hsr
      clear hg2 hs2 hpi hat hlk hgp hJs hC hcs hc2 hJ2 hcs2 hC2 hlen hlt hrg hrg2 hsr hrg0 hJ0 hcS hs0
      have hb3 : Below w2.heap.size w2 (w2.alloc (.cells (PC p ((qa, qc), (qb, qd))) 41)) := (Below.refl _ w2).alloc (Nat.le_refl _) _
      have hc3 : ∀ S : Nat -> Prop, Ch S w2 (w2.alloc (.cells (PC p ((qa, qc), (qb, qd))) 41)) := fun S => Ch.of_below hb3 (Nat.le_refl _)
      have hs3 := hb3.size
      obtain ⟨fn, tmps, assign, body, hy, hRd⟩ := HY.out ps (p, ((qa, qc), (qb, qd))) #[.agg (PC p ((qa, qc), (qb, qd)))] wr _ HJ2.out.2.2.1 HLE.out HJ2.out.2.2.2.1 HSR.out (HJ2.out.2.2.2.2.trans (hc3 _) (fun _ _ h => h)) rfl
      have HRD := Lib.hid hRd
      have HB3 := Lib.hid hb3
      clear hRd hb3 hc3 hs3
      unfold PC at hen hy HRD HB3 ⊢
      gi_wp2_with fail
      refine ⟨fun h => (wide_some h).elim, HRD.out.mono ?_⟩
      rintro e W3 (⟨rfl, hJ3, hc3⟩ | ⟨rfl, hJx3, hc3⟩)
      . have hcw : Ch S w2 W3 := (Ch.of_below (S := S) HB3.out (Nat.le_refl _)).trans hc3 (fun _ _ h => h)
        have hrg3 := ranges_ch HRG2.out hcw HMS.out (HNO.out _ (Nat.le_refl _) (by omega))
        have HRG3 := Lib.hid hrg3
        have HC3 := Lib.hid (HJ2.out.2.1.trans hcw (fun _ _ h => h))
        have HJ3 := Lib.hid hJ3
        have HS3 : Hid (W.heap.size + 1 <= W3.heap.size) := Lib.hid (by have := hcw.size; have := HS2.out; have := HSR.out; omega)
        clear hJ3 hc3 hcw hrg3 hy hen
        gi_wp2_with fail
        go_roundw
        case rel => exact ⟨_, cnt2, ps ++ [(p, ((qa, qc), (qb, qd)))], HRG3.out, HC2.out, HJ3.out, HC3.out, HS3.out⟩
        case measure => rw [HRG3.out.left_eq, HLT.out.2.left_eq]; exact HLT.out.1
      . have hcw : Ch S w2 W3 := (Ch.of_below (S := S) HB3.out (Nat.le_refl _)).trans hc3 (fun _ _ h => h)
        have HC3 := Lib.hid (HJ2.out.2.1.trans hcw (fun _ _ h => h))
        have HJ3 := Lib.hid hJx3
        clear hJx3 hc3 hcw hy hen
        gi_wp2_with fail
        refine bodyPost_ret (results_none rfl _ _ _) rfl ?_
        exact ⟨⟨_, rfl⟩, HC3.out, .inr ⟨_, HJ3.out⟩⟩
end Go.Proofs.YtmhmnkpaijoaaaaGreat.Puf
namespace Go.Proofs.YtmhmnkpaijoaaaaGreat.Puk
set_option linter.unusedSimpArgs false
open Go Go.RowKit Go.Shelf Ck Cf Ci Kw Ga Kf Pm Pe Pg Ik Lk Jm Ja Jb Jf Jg Jl Jn Kc Kj Pra Prb Prc Prd Pre Prf Prn Prr Prx Psg Psh Psx Pta Ptd Pte Pth Pua Kr Kv Pue Puf
attribute [local go_sem ↓] Go.wp_at_zero Go.wp_at_succ
attribute [local go_sem] Oper.semAt_some
set_option linter.unusedVariables false
set_option maxRecDepth 100000
section
variable {F : Fence} {nF : Nat} {P : Program} {w : World}
theorem wpListIn_append_one {ops : Array Oper} {rest : List Oper} {o : Oper} {a : Act} {Q : Exit -> Act -> World -> Prop} (hgd : o.guard = none) (s x : Operand) (t : TypeId)
    (ho : o.op = .call { callee := .builtin .append, args := #[s, x], argTypes := #[t, t] })
    (base : Nat) (e : TypeId) (i : TypeInfo) (z : Value) (size bytes : Nat) (ht : P.underlying t = some (.slice e)) (hi : P.info? e = some i) (hz : i.zero = some z)
    (hsize : i.size = size) (hby : i.bytes = bytes) (hzs : z.cells.size = size) (hsz : 0 < size)
    (v : Value) (n : Nat) (xs : List Value) (hs : a.eval s = v) (hown : w.ownsRow base e size v n xs)
    (ad : Addr) (c : Nat) (news : List Value) (hx : a.eval x = .slice (some ad) 1 c) (hl : news.length = 1 * size) (hnews : ∀ j u, news[j]? = some u -> w.cell? (ad.add j) = some u) (h1 : ∀ u ∈ news, u.oneCell' = true)
    (h63 : n + 1 <= maxLen) (hb : ((n + 1) + (n + 1) / 4 + 192) * bytes <= 281474976710656) (hbase : base <= w.heap.size)
    (h : ∀ A c w', Appended w base e size v (n + 1) (xs ++ news) (.slice A (n + 1) c) w' -> wpListIn F nF P ops Q rest (a.put o.dst (.slice A (n + 1) c)) w') : wpListIn F nF P ops Q (o :: rest) a w := by
  refine wpListIn_plain hgd fun K hK => ?_
  obtain ⟨v', w', hrun, h2⟩ := run_append_one (P := P) w base t o.type e i z size bytes ht hi hz hsize hby hzs hsz v n xs hown ad c news hl hnews h1 h63 hb hbase
  obtain ⟨A, c', rfl⟩ := own_shape h2.1
  unfold Oper.wpIn
  refine ⟨?_, ?_⟩
  . simp [Oper.about, ho, resolve, Target.leads, Sem.run_pure]
  . rw [Oper.semAt_plain F _ _ (by rw [ho]; intro c hc'; cases hc')]
    unfold execOp
    simp only [ho, resolve, invoke, builtin, Sem.run_bind, Sem.run_pure, Result.andThen_ok, List.map_toArray, List.map_cons, List.map_nil, hs, hx, hrun]
    exact hK _ _ (h A c' w' h2)
end
def flatR (ps : List PR) : List Value := ps.flatMap fun x => (PC x.1 x.2).toList
theorem flatR_snoc (ps : List PR) (x : PR) : flatR (ps ++ [x]) = flatR ps ++ (PC x.1 x.2).toList := by unfold flatR; rw [List.flatMap_append]; simp
theorem info_prep : (Tryz.prog.info? 41).map (fun i => (i.zero, i.size, i.bytes)) = some (some (.agg #[.int .i64 0, .int .i64 0, .int .i64 0, .int .i64 0, .int .i64 0, .slice none 0 0, .slice none 0 0]), 7, 88) := by kernel_rfl
theorem new_cells (w : World) (cs : Array Value) (t : TypeId) (j : Nat) (u : Value) (h : cs.toList[j]? = some u) : (w.alloc (.cells cs t)).cell? ((⟨w.heap.size, 0, none⟩ : Addr).add j) = some u := by
  have hb : Blk (w.alloc (.cells cs t)) w.heap.size t cs := Blk.new w _ _
  have ha : (⟨w.heap.size, 0, none⟩ : Addr).add j = ⟨w.heap.size, j, none⟩ := by unfold Addr.add; split <;> simp_all
  rw [ha, hb.cell j]
  simpa using h
theorem grow_cap {n : Nat} (h : n <= 1599289640355) : (n + n / 4 + 192) * 88 <= 281474976710656 := by omega
def actS (Bm bs : Nat) (args : Array Value) (g : Nat) : Act :=
  match args with
  | ⟨[x]⟩ => { tmps := #[.slice none 0 0, VF Bm, .pointer (some ⟨bs, 0, none⟩), undef, .slice none 0 0, .pointer (some ⟨g, 0, none⟩), VF Bm, x, undef, undef, undef, undef, undef], defers := [] }
  | _ => { tmps := #[], defers := [] }
def obS (args : Array Value) : Obj :=
  match args with
  | ⟨[.agg cs]⟩ => .cells cs 41
  | _ => .cells #[] 41
def IS (bs B : Nat) (ps : List PR) (W : World) : Prop :=
  ∃ A c, Blk W bs 30 #[.slice A ps.length c] /\ W.ownsRow B 41 7 (.slice A ps.length c) ps.length (flatR ps)
theorem is_fin {bs B D : Nat} {T : Nat -> Prop} {k : List PR} {x : PR} {A A2 : Option Addr} {c c2 : Nat} {Wk Wa w3 : World} (hk : Blk Wk bs 30 #[.slice A k.length c]) (hr : Wk.ownsRow B 41 7 (.slice A k.length c) k.length (flatR k)) (ha : Below Wk.heap.size Wk Wa)
    (happ : Appended Wa B 41 7 (.slice A k.length c) (k.length + 1) (flatR k ++ (PC x.1 x.2).toList) (.slice A2 (k.length + 1) c2) w3) (hT : ∀ q, (q = bs \/ B <= q) -> T q /\ ¬ Bk D q) :
    Blk w3 bs 30 #[.slice A k.length c] /\ Ch (fun j => T j /\ ¬ Bk D j) Wk (w3.setCell ⟨bs, 0, none⟩ (.slice A2 (k.length + 1) c2)) /\ IS bs B (k ++ [x]) (w3.setCell ⟨bs, 0, none⟩ (.slice A2 (k.length + 1) c2)) := by
  have hra := own_below hr ha
  have hka := hk.below ha hk.lt
  have c3 : Ch (fun q => (Value.slice A k.length c).ownBlock = some q) Wa w3 := Ch.of_grown happ.2.1 (fun q hq _ => hq)
  have hk3 := hka.ch c3 (own_far hra hka (by decide))
  have cs : Ch (fun q => q = bs) w3 (w3.setCell ⟨bs, 0, none⟩ (.slice A2 (k.length + 1) c2)) := Ch.setCell (Ch.refl (fun q => q = bs) w3) (p := ⟨bs, 0, none⟩) (fun _ => rfl) _
  refine ⟨hk3, ((Ch.of_below (S := fun j => T j /\ ¬ Bk D j) ha (Nat.le_refl _)).trans (c3.mono (T := fun j => T j /\ ¬ Bk D j) (fun q _ hq => hT q (.inr (hra.lt q hq).1))) (fun _ _ h => h)).trans (cs.mono (T := fun j => T j /\ ¬ Bk D j) (fun q _ hq => hT q (.inl hq))) (fun _ _ h => h), ⟨A2, c2, ?_, ?_⟩⟩
  . have := hk3.set_ 0 (.slice A2 (k.length + 1) c2)
    simpa using this
  . have h1 := own_ch happ.1 cs (fun q hq e => own_far happ.1 hk3 (by decide) (by rw [hq, e]))
    rw [flatR_snoc]
    simpa using h1
set_option maxHeartbeats 8000000 in
theorem appseq_any (w : World) (X : Nat -> Prop) (Bm m nn : Nat) (D : DataW Value) (l : List Pd) (hB : Blk w Bm 99 #[.map (some m)]) (ho : w.ownsMap Tryz.prog 2 RV m nn D) (hd : DL w X D l) (hl : l.length <= 1599289640355) :
    Calls Tryz.prog 153 #[.slice none 0 0, VF Bm] w fun e w' => ∃ A c ps, e = .returned (.slice A ps.length c) /\ All D l ps /\ w'.ownsRow w.heap.size 41 7 (.slice A ps.length c) ps.length (flatR ps) /\ Below w.heap.size w w' := by
  refine (callsIn_wide (n := 6)).1 ?_
  refine callsIn_of_wp_marks Tryz.func153 rfl trivial ?_ rfl
  simp only [Tryz.ntmps153, List.size_toArray, List.length_cons, List.length_nil, Nat.reduceAdd, Nat.reduceSub, Array.replicate_succ, Array.replicate_zero, List.push_toArray, List.append_toArray, List.nil_append, List.cons_append]
  have hb1 : Below w.heap.size w (w.alloc (.cells #[.slice none 0 0] 30)) := (Below.refl _ w).alloc (Nat.le_refl _) _
  have hk1 : Blk (w.alloc (.cells #[.slice none 0 0] 30)) w.heap.size 30 #[.slice none 0 0] := Blk.new w _ _
  have hs1 : (w.alloc (.cells #[.slice none 0 0] 30)).heap.size = w.heap.size + 1 := by simp
  have hBl := hB.lt
  have hml := ho.lt
  have hB1 := hB.below hb1 hB.lt
  have ho1 := map_ch ho (Ch.of_below (S := fun _ => False) hb1 (Nat.le_refl _)) (fun h => h)
  have hd1 := hd.after hb1
  have HK1 := Lib.hid hk1
  have HB1 := Lib.hid hb1
  have HS1 := Lib.hid hs1
  have HL := Lib.hid hl
  clear hk1 hb1 hs1 hB ho hd
  gi_wp2_with fail
  generalize w.alloc (.cells #[.slice none 0 0] 30) = w1 at *
  have hseq := values_seq 5 (by omega) (fun k => k = w.heap.size \/ (w1.heap.size <= k /\ k < w1.heap.size + 2) \/ w1.heap.size + 3 <= k) X w1 Bm m nn D l hB1 (fun h => by have := HS1.out; omega) ho1 (fun h => by have := HS1.out; omega) hd1
  have HSEQ := Lib.hid hseq
  clear hseq hB1 ho1 hd1
  have hs1 := HS1.out
  refine wpIn_rangeL rfl (by omega) (gf := 134) (lb := #[.pointer (some ⟨Bm, 0, none⟩)]) rfl trivial (enters_of Tryz.func134 (by kernel_rfl) rfl) HSEQ.out (fun k hk h => by omega) (fun k h1 h2 h => by omega)
    (fun B p args W hh => by rw [hh]; rfl) (fun B p args W W' hh _ _ => hh)
    (IS w.heap.size (w1.heap.size + 3)) (fun _ _ _ => False)
    (fun k Wa Wb hh hs c => by
      obtain ⟨A, cc, h1, h2⟩ := hh
      exact ⟨A, cc, h1.ch c (fun h => by have h : w1.heap.size <= w.heap.size /\ w.heap.size < w1.heap.size + 2 + 1 := h; omega), own_ch h2 c (fun q hq h => by have := (h2.lt q hq).1; have h : w1.heap.size <= q /\ q < w1.heap.size + 2 + 1 := h; omega)⟩) (fun cc k Wa Wb hh hs c => hh) ⟨none, 0, HK1.out, World.ownsRow_nil _ _ _ _⟩ (actS Bm w.heap.size) obS ?assign ?body ?done ?stop
  case assign =>
    intro l' B x args W K hr hK
    obtain rfl : args = #[.agg (PC x.1 x.2)] := hr
    dsimp only [actS, obS] at hK
    unfold PC at hK ⊢
    gi_wp2_with fail
    exact hK
  case stop => exact fun _ _ _ _ h _ => h.elim
  case done =>
    intro k Wd hE hcw hi hd
    obtain ⟨A, c, h1, h2⟩ := hi
    have q0 : Wd.cell? ⟨w.heap.size, 0, none⟩ = some (.slice A k.length c) := h1.cell 0
    have HE := Lib.hid (And.intro hE h2)
    have HBW : Hid (Below w.heap.size w Wd) := Lib.hid (HB1.out.trans (hcw.below (B := w.heap.size) (fun q hq h => by omega) HB1.out.size))
    have HD := Lib.hid hd
    clear hE h2 h1 hcw hd
    gi_wp2_with fail
    refine ⟨by simp, .inl ⟨_, _, rfl, run_takeDeferred HD.out, ?_⟩⟩
    refine ⟨_, results_tmp rfl _ _ _, ?_⟩
    have hP := ch_putObj Wd w1.heap.size (.deferred none)
    exact ⟨A, c, k, rfl, HE.out.1, own_base (own_ch HE.out.2 hP (fun q hq hX => by have := (HE.out.2.lt q hq).1; omega)) (by omega), HBW.out.trans (hP.below (fun k hk h => by omega) HBW.out.size)⟩
  case body =>
    intro l' k x args W0 Wk g hlt hN hcw hi hcc hr hob hg
    obtain rfl : args = #[.agg (PC x.1 x.2)] := hr
    obtain ⟨A, c, h1, h2⟩ := hi
    have h1 := h1.ch hcc (fun h => by have h : w1.heap.size <= w.heap.size /\ w.heap.size < w1.heap.size + 2 + 1 := h; omega)
    have h2 := own_ch h2 hcc (fun q hq h => by have := (h2.lt q hq).1; have h : w1.heap.size <= q /\ q < w1.heap.size + 2 + 1 := h; omega)
    have hgb : Blk Wk g 41 (PC x.1 x.2) := hob
    have q0 : Wk.cell? ⟨w.heap.size, 0, none⟩ = some (.slice A k.length c) := h1.cell 0
    have f0 := h1.frozen 0
    have hkl : k.length + 1 <= 1599289640355 := by have := HL.out; omega
    obtain ⟨i0, hi0, hz0, hz1, hz2⟩ := info_parts info_prep
    have HR := Lib.hid h2
    have HK := Lib.hid h1
    have HG := Lib.hid hgb
    have hbs : w1.heap.size + 3 <= Wk.heap.size := by have := hgb.lt; omega
    clear hob h1 h2 hcc
    unfold PC at hgb
    have e0 := hgb.cell 0
    have e1 := hgb.cell 1
    have e2 := hgb.cell 2
    have e3 := hgb.cell 3
    have e4 := hgb.cell 4
    have e5 := hgb.cell 5
    have e6 := hgb.cell 6
    simp only [List.getElem?_toArray, List.getElem?_cons_zero, List.getElem?_cons_succ] at e0 e1 e2 e3 e4 e5 e6
    clear hgb
    dsimp only [actS]
    unfold PC
    clear hl
    gi_wp2_with (gi_at_builtin; refine wpListIn_append_one rfl (.tmp 8) (.tmp 10) _ rfl (w1.heap.size + 3) 41 i0 _ 7 88 Tryz.underlying30 hi0 hz0 hz1 hz2 rfl (by omega) (.slice A k.length c) k.length (flatR k) rfl (HR.out.alloc _) ⟨Wk.heap.size, 0, none⟩ 1 (PC x.1 x.2).toList rfl rfl (new_cells Wk (PC x.1 x.2) 41) (PC_one x.1 x.2) (by simp only [maxLen]; omega) (grow_cap hkl) (by rw [World.size_alloc]; omega) ?_; intro A2 c2 w3 happ; have HFN := Lib.hid (is_fin (D := w1.heap.size) (T := fun k => k = w.heap.size \/ (w1.heap.size <= k /\ k < w1.heap.size + 2) \/ w1.heap.size + 3 <= k) HK.out HR.out ((Below.refl _ Wk).alloc (Nat.le_refl _) _) happ (fun q hq => ⟨by omega, fun hb => by have hb : q = w1.heap.size \/ q = w1.heap.size + 1 := hb; omega⟩)); have p3 := HFN.out.1.cell 0; have f3 := HFN.out.1.frozen 0; simp only [List.getElem?_toArray, List.getElem?_cons_zero] at p3; clear happ)
    exact HFN.out.2
end Go.Proofs.YtmhmnkpaijoaaaaGreat.Puk
namespace Go.Proofs.YtmhmnkpaijoaaaaGreat.Pul
set_option linter.unusedSimpArgs false
open Go Go.RowKit Go.Shelf Ck Cf Ci Kw Ga Kf Pm Pe Pg Ik Lk Jm Ja Jb Jf Jg Jl Jn Kc Kj Pra Prb Prc Prd Pre Prf Prn Prr Prx Psg Psh Psx Pta Ptd Pte Pth Pua Kr Kv Pue Puf Puk
open Go.Sort (grow flatK SWO PermIn SortedIn)
attribute [local go_sem ↓] Go.wp_at_zero Go.wp_at_succ
set_option linter.unusedVariables false
set_option maxRecDepth 100000
theorem isnan_any (w : World) (x : Int) : Calls Tryz.prog 156 #[.int .i64 x] w fun e w' => e = .returned (.bool false) /\ w = w' := by
  go_enter Tryz.func156, Tryz.ntmps156
  go_wp2_with fail
  go_ret
  exact ⟨rfl, rfl⟩
theorem compare_any (w : World) (x y : Int) : Calls Tryz.prog 135 #[.int .i64 x, .int .i64 y] w fun e w' => e = .returned (.int .i64 (Lib.compareInt x y)) /\ w = w' := by
  have HC : Hid (Lib.compareInt x y = if x < y then -1 else if x > y then 1 else 0) := Lib.hid rfl
  by_cases h1 : x < y
  . have HO : Hid (Lib.compareInt x y = -1) := Lib.hid (by rw [HC.out, if_pos h1])
    go_enter Tryz.func135, Tryz.ntmps135
    go_wp2_with fail
    refine (isnan_any _ _).mono ?_
    rintro e w1 ⟨rfl, rfl⟩
    go_wp2_with fail
    refine (isnan_any _ _).mono ?_
    rintro e w1 ⟨rfl, rfl⟩
    go_wp2_with fail
    go_ret
    exact ⟨by rw [HO.out]; rfl, rfl⟩
  . by_cases h2 : y < x
    . have HO : Hid (Lib.compareInt x y = 1) := Lib.hid (by rw [HC.out, if_neg h1, if_pos h2])
      go_enter Tryz.func135, Tryz.ntmps135
      go_wp2_with fail
      refine (isnan_any _ _).mono ?_
      rintro e w1 ⟨rfl, rfl⟩
      go_wp2_with fail
      refine (isnan_any _ _).mono ?_
      rintro e w1 ⟨rfl, rfl⟩
      go_wp2_with fail
      go_ret
      exact ⟨by rw [HO.out]; rfl, rfl⟩
    . have HO : Hid (Lib.compareInt x y = 0) := Lib.hid (by rw [HC.out, if_neg h1, if_neg h2])
      go_enter Tryz.func135, Tryz.ntmps135
      go_wp2_with fail
      refine (isnan_any _ _).mono ?_
      rintro e w1 ⟨rfl, rfl⟩
      go_wp2_with fail
      refine (isnan_any _ _).mono ?_
      rintro e w1 ⟨rfl, rfl⟩
      go_wp2_with fail
      go_ret
      exact ⟨by rw [HO.out]; rfl, rfl⟩
def encP (x : PR) : List Value := (PC x.1 x.2).toList
def cfP (x y : PR) : Int := Lib.compareInt x.1.seq y.1.seq
theorem byseq_any (w : World) (x y : PR) : Calls Tryz.prog 117 #[.agg (PC x.1 x.2), .agg (PC y.1 y.2)] w fun e w' => e = .returned (.int .i64 (cfP x y)) /\ ∃ q os', w' = grow (w.drewN q) os' := by
  have hcon := fun W' => Lib.hid (compare_any W' x.1.seq y.1.seq)
  unfold cfP PC
  generalize Lib.compareInt x.1.seq y.1.seq = r at hcon ⊢
  go_enter Tryz.func117, Tryz.ntmps117
  go_wp2_with fail
  refine (hcon _).out.mono ?_
  rintro e w1 ⟨rfl, rfl⟩
  go_wp2_with fail
  go_ret
  exact ⟨rfl, 0, _, by rw [Go.Sort.alloc_eq_grow, Go.Sort.alloc_eq_grow, Go.Sort.grow_grow]; rfl⟩
end Go.Proofs.YtmhmnkpaijoaaaaGreat.Pul
namespace Go.Proofs.YtmhmnkpaijoaaaaGreat.Pum
set_option linter.unusedSimpArgs false
open Go Go.RowKit Go.Shelf Ck Cf Ci Kw Ga Kf Pm Pe Pg Ik Lk Jm Ja Jb Jf Jg Jl Jn Kc Kj Pra Prb Prc Prd Pre Prf Prn Prr Prx Psg Psh Psx Pta Ptd Pte Pth Pua Kr Kv Pue Puf Puk Pul
open Go.Sort (grow flatK SWO PermIn SortedIn HoldsK)
set_option linter.unusedVariables false
set_option maxRecDepth 100000
instance : Inhabited Pd := ⟨Pd.zero⟩
theorem ltP (x y : PR) : ltOf cfP x y = decide (x.1.seq < y.1.seq) := by
  unfold ltOf cfP Lib.compareInt
  by_cases h1 : x.1.seq < y.1.seq
  . simp [h1]
  . by_cases h2 : y.1.seq < x.1.seq <;> simp [h1, h2]
theorem swoP : SWO (ltOf cfP) where
  irrefl x := by rw [ltP]; simp
  trans x y z h1 h2 := by rw [ltP] at *; simp at *; omega
  ntrans x y z h1 h2 := by rw [ltP] at *; simp at *; omega
theorem encP_len (x : PR) : (encP x).length = 7 := rfl
theorem lays_any (blk off size : Nat) (w : World) : CmpLays Tryz.prog 117 #[] encP 7 cfP blk off size w := fun _ _ _ _ x y => byseq_any _ x y
theorem flat_at (ps : List PR) (j : Nat) (h : j < ps.length * 7) : (flatR ps)[j]? = some (flatK encP 7 ps.toArray)[j]! := by
  have hq : j / 7 < ps.length := by omega
  have hm : j % 7 < 7 := by omega
  have h1 := flat_get (F := fun x : PR => (PC x.1 x.2).toList) (m := 7) (fun x => PC_len x) ps (j / 7) hq (j % 7) hm
  have e : j / 7 * 7 + j % 7 = j := by omega
  rw [e] at h1
  unfold flatR
  rw [h1, Go.Sort.get_flatK _ _ _ _ (by simpa using h)]
  have e2 : (ps.toArray)[j / 7]! = ps[j / 7] := by simp [hq]
  rw [e2]
  show (encP ps[j / 7])[j % 7]? = _
  rw [List.getElem?_eq_getElem (by rw [encP_len]; exact hm), getElem!_pos _ _ (by rw [encP_len]; exact hm)]
theorem holds_of {w : World} {base g c : Nat} {ps : List PR} (h : w.ownsRow base 41 7 (.slice (some ⟨g, 0, none⟩) ps.length c) ps.length (flatR ps)) : HoldsK encP 7 w g 0 ps.toArray := by
  intro j hj
  have hj' : j < ps.length * 7 := by simpa using hj
  rw [Nat.zero_add]
  exact ⟨by rw [h.cellAt j hj', flat_at ps j hj']; rfl, h.frozenAt j⟩
theorem ch_sort {w : World} {g m : Nat} {d : Array PR} {os : Array Obj} : Ch (fun k => k = g) w (sortWorldK encP 7 w g 0 m d os) := by
  refine ⟨rfl, rfl, rfl, ?_, fun i hi hn => ?_⟩
  . exact size_sortWorldK_c (enc := encP) (k := 7) (blk := g) (off := 0) (w := w) m d os
  . unfold sortWorldK Go.Sort.grow Go.Sort.putRowK Go.Sort.putRow Go.Sort.mapBlock Go.Sort.ahead
    simp only
    rw [Array.getElem?_append_left (by simpa using hi), Array.getElem?_modify, if_neg (fun e => hn e.symm)]
theorem rise_ext : ∀ {a b : List Pd}, a.Pairwise (fun p q => p.seq < q.seq) -> b.Pairwise (fun p q => p.seq < q.seq) -> (∀ p, p ∈ a ↔ p ∈ b) -> a = b
  | [], [], _, _, _ => rfl
  | [], q :: b, _, _, h => absurd ((h q).2 (by simp)) (by simp)
  | p :: a, [], _, _, h => absurd ((h p).1 (by simp)) (by simp)
  | p :: a, q :: b, ha, hb, h => by
    rw [List.pairwise_cons] at ha hb
    have e : p = q := by
      rcases List.mem_cons.1 ((h p).1 (by simp)) with e | h1
      . exact e
      . rcases List.mem_cons.1 ((h q).2 (by simp)) with e | h2
        . exact e.symm
        . have := ha.1 q h2
          have := hb.1 p h1
          omega
    subst e
    rw [rise_ext ha.2 hb.2 (fun r => ?_)]
    constructor
    . intro hr
      rcases List.mem_cons.1 ((h r).1 (List.mem_cons_of_mem _ hr)) with e | h1
      . subst e; have := ha.1 r hr; omega
      . exact h1
    . intro hr
      rcases List.mem_cons.1 ((h r).2 (List.mem_cons_of_mem _ hr)) with e | h1
      . subst e; have := hb.1 r hr; omega
      . exact h1
set_option maxHeartbeats 2000000 in
theorem sort_any (w : World) (base : Nat) (A : Option Addr) (c : Nat) (ps : List PR) (h : w.ownsRow base 41 7 (.slice A ps.length c) ps.length (flatR ps)) (hl : ps.length <= 1599289640355) :
    Calls Tryz.prog 133 #[.slice A ps.length c, .func (.func 117) #[] #[]] w fun e w' => e = .returned (.tuple #[]) /\ ∃ qs : List PR, qs.Perm ps /\ qs.Pairwise (fun x y => x.1.seq <= y.1.seq) /\ Sl w' (fun k => k < base) 7 (.slice A ps.length c) ps.length (flatR qs) /\ Ch (fun k => base <= k) w w' := by
  rcases Nat.eq_zero_or_pos ps.length with h0 | hpos
  . obtain rfl : ps = [] := List.eq_nil_of_length_eq_zero h0
    refine (show Calls Tryz.prog 133 _ w _ from AnyF.slices_SortFunc_none Tryz.sortP A c (.func (.func 117) #[] #[]) w).mono ?_
    rintro e w' ⟨rfl, rfl⟩
    exact ⟨rfl, [], List.Perm.refl _, List.Pairwise.nil, Sl.of_own h (fun k h1 _ h2 => by omega), Ch.refl _ _⟩
  . obtain ⟨g, c', hv, hg, hlt⟩ := h.form hpos
    obtain ⟨rfl, _, rfl⟩ := Value.slice.inj hv
    have hH := holds_of h
    have hi : ∀ W, (isAgg 41).run Tryz.prog W = .ok true W := fun W => by kernel_rfl
    have hz : ∀ W, (Go.sizeOf 41).run Tryz.prog W = .ok 7 W := fun W => by kernel_rfl
    have eg : ∀ args W, (callFunc 117 args).run Tryz.prog W = .ok (.enter 117 args) W := enters_of Tryz.func117 (by kernel_rfl) rfl
    have hcon := AnyQ.slices_SortFunc Tryz.sortP 7 hi hz encP encP_len (fun x v hv => PC_one x.1 x.2 v hv) cfP swoP 117 #[] g 0 c ps.toArray w eg (lays_any g 0 _ w) hH hlt (by simp only [List.size_toArray]; omega)
    rw [List.size_toArray] at hcon
    refine (show Calls Tryz.prog 133 _ w _ from hcon).mono ?_
    rintro e w' ⟨rfl, d', n, os, hp, hs, rfl⟩
    obtain ⟨hp1, -, hp3⟩ := hp
    have hp1 : d'.size = ps.length := by simpa using hp1
    have hpm : d'.toList.Perm ps := by
      have : (d'.extract 0 ps.length) = d' := by rw [<- hp1]; exact Array.extract_size ..
      rw [this] at hp3
      have h2 : (ps.toArray.extract 0 ps.length) = ps.toArray := by
        have := Array.extract_size (xs := ps.toArray)
        rw [List.size_toArray] at this
        exact this
      rw [h2] at hp3
      simpa using hp3
    refine ⟨rfl, d'.toList, hpm, ?_, ?_, ch_sort.mono (fun k _ e => by rw [e]; exact hg)⟩
    . rw [List.pairwise_iff_getElem]
      intro i j hi hj hij
      have h1 := hs i j (Nat.zero_le _) hij (by rw [Array.length_toList] at hj; omega)
      rw [ltP] at h1
      rw [Array.length_toList] at hi hj
      have e1 : d'[i]! = d'[i] := getElem!_pos d' i hi
      have e2 : d'[j]! = d'[j] := getElem!_pos d' j hj
      rw [e1, e2, decide_eq_false_iff_not] at h1
      rw [Array.getElem_toList, Array.getElem_toList]
      omega
    . have hH2 := holdsK_sortWorldK encP 7 w g 0 n ps.toArray d' os hlt hH (by rw [hp1]; simp)
      have hlen : d'.toList.length = ps.length := hpm.length_eq
      have hc := (Sl.of_own h (X := fun k => k < base) (fun k h1 _ h2 => by omega))
      obtain ⟨A0, c0, hv0, hl0, hc0, hm0, -⟩ := hc
      obtain ⟨_, _, rfl⟩ := Value.slice.inj hv0
      refine ⟨_, _, rfl, ?_, hc0, hm0, fun _ => ⟨⟨g, 0, none⟩, rfl, ?_, by show ¬ g < base; omega, fun j u hu => ?_⟩⟩
      . unfold flatR
        rw [flat_len (F := fun x : PR => (PC x.1 x.2).toList) (m := 7) (fun x => PC_len x), hlen]
      . exact Nat.lt_of_lt_of_le hlt (size_sortWorldK_c (enc := encP) (k := 7) (blk := g) (off := 0) (w := w) n d' os)
      . have ha : (⟨g, 0, none⟩ : Addr).add j = ⟨g, j, none⟩ := by unfold Addr.add; split <;> simp_all
        have hj : j < d'.toList.length * 7 := by
          have h1 := (List.getElem?_eq_some_iff.1 hu).1
          unfold flatR at h1
          rw [flat_len (F := fun x : PR => (PC x.1 x.2).toList) (m := 7) (fun x => PC_len x)] at h1
          exact h1
        have h1 := hH2 j (by rw [Go.Sort.size_flatK, <- Array.length_toList]; exact hj)
        rw [Nat.zero_add] at h1
        rw [ha, h1.1]
        have h2 := flat_at d'.toList j hj
        rw [hu] at h2
        simpa using h2.symm
end Go.Proofs.YtmhmnkpaijoaaaaGreat.Pum
namespace Go.Proofs.YtmhmnkpaijoaaaaGreat.Pun
set_option linter.unusedSimpArgs false
open Go Go.RowKit Go.Shelf Ck Cf Ci Kw Ga Kf Pm Pe Pg Ik Lk Jm Ja Jb Jf Jg Jl Jn Kc Kj Pra Prb Prc Prd Pre Prf Prn Prr Prx Psg Psh Psx Pta Ptd Pte Pth Pua Kr Kv Puc Pue Puf Puk Pul Pum
attribute [local go_sem ↓] Go.wp_at_zero Go.wp_at_succ
set_option linter.unusedVariables false
set_option maxRecDepth 100000
section
variable {w w' : World} {X Y : Nat -> Prop} {D : DataW Value} {l : List Pd} {ps qs : List PR}
theorem all_list (ha : All D l ps) (hr : Rise l) (hp : qs.Perm ps) (hs : qs.Pairwise (fun x y => x.1.seq <= y.1.seq)) : qs.map (·.1) = l := by
  have hnd : (qs.map (·.1.seq)).Nodup := ((hp.map (·.1.seq)).nodup_iff).2 ha.nod
  refine rise_ext ?_ hr.1 (fun p => ?_)
  . rw [List.pairwise_map]
    rw [List.nodup_iff_pairwise_ne, List.pairwise_map] at hnd
    exact (hs.and hnd).imp (fun h => by have := h.1; have := h.2; omega)
  . rw [List.mem_map]
    constructor
    . rintro ⟨x, hx, rfl⟩
      exact (get_seq (ha.mem x (hp.mem_iff.1 hx)).1).1
    . intro hp'
      obtain ⟨x, hx, e⟩ := ha.all p.seq (by rw [get_of hr hp']; rfl)
      have h1 := (ha.mem x hx).1
      rw [e, get_of hr hp'] at h1
      exact ⟨x, hp.mem_iff.2 hx, (Option.some.inj h1).symm⟩
theorem PC_inj {p : Pd} {r r' : Pl2} (h : PC p r = PC p r') : r = r' := by
  obtain ⟨⟨a, b⟩, ⟨c, d⟩⟩ := r
  obtain ⟨⟨a', b'⟩, ⟨c', d'⟩⟩ := r'
  simp only [PC, Array.mk.injEq, List.cons.injEq, Value.slice.injEq, true_and, and_true] at h
  obtain ⟨⟨rfl, rfl⟩, ⟨rfl, rfl⟩⟩ := h
  rfl
theorem pts_of (hd : DL w X D l) (ha : All D l ps) (hp : qs.Perm ps) (e : qs.map (·.1) = l) : Pts w X l (qs.map (·.2)) := by
  subst e
  refine ⟨by simp, fun i hi => ?_⟩
  have hi' : i < qs.length := by simpa using hi
  refine ⟨qs[i].2, by simp [hi'], ?_⟩
  have hm := ha.mem qs[i] (hp.mem_iff.1 (List.getElem_mem hi'))
  obtain ⟨r, h1, h2⟩ := hd.at_ _ _ hm.1
  have h3 := (hm.2 (.held (.int .i64 0))).symm.trans (h1 (.held (.int .i64 0)))
  injection h3 with h3
  injection h3 with h3
  rw [PC_inj h3, List.getElem_map]
  exact h2
theorem flat_zip (qs : List PR) : flatP (qs.map (·.1)) (qs.map (·.2)) = flatR qs := by
  have : (qs.map (·.1)).zip (qs.map (·.2)) = qs := by
    induction qs with
    | nil => rfl
    | cons x qs ih => simp [ih]
  unfold flatP flatR
  rw [this]
end
set_option maxHeartbeats 2000000 in
theorem collect_any (w : World) (X : Nat -> Prop) (Bm m nn : Nat) (D : DataW Value) (l : List Pd) (hB : Blk w Bm 99 #[.map (some m)]) (ho : w.ownsMap Tryz.prog 2 RV m nn D) (hd : DL w X D l) (hl : l.length <= 1599289640355) :
    Calls Tryz.prog 132 #[VF Bm] w fun e w' => ∃ A c ps, e = .returned (.slice A ps.length c) /\ All D l ps /\ w'.ownsRow w.heap.size 41 7 (.slice A ps.length c) ps.length (flatR ps) /\ Below w.heap.size w w' := by
  have HA := Lib.hid (appseq_any w X Bm m nn D l hB ho hd hl)
  clear hB ho hd hl
  go_enter Tryz.func132, Tryz.ntmps132
  go_wp2_with fail
  refine HA.out.mono ?_
  rintro e w1 ⟨A, c, ps, rfl, h1, h2, h3⟩
  have HR := Lib.hid (And.intro h1 (And.intro h2 h3))
  clear h1 h2 h3
  go_wp2_with fail
  go_ret
  exact ⟨A, c, ps, rfl, HR.out⟩
set_option maxHeartbeats 2000000 in
theorem sorted_any (w : World) (X : Nat -> Prop) (Bm m nn : Nat) (D : DataW Value) (l : List Pd) (hB : Blk w Bm 99 #[.map (some m)]) (ho : w.ownsMap Tryz.prog 2 RV m nn D) (hd : DL w X D l) (hr : Rise l) (hl : l.length <= 1599289640355) :
    Calls Tryz.prog 115 #[VF Bm, .func (.func 117) #[] #[]] w fun e w' => ∃ A c, e = .returned (.slice A l.length c) /\ PL w' (fun k => X k /\ k < w.heap.size) (.slice A l.length c) l /\ Below w.heap.size w w' := by
  have HA := Lib.hid (collect_any w X Bm m nn D l hB ho hd hl)
  have HD := Lib.hid hd
  have HL := Lib.hid (And.intro hr hl)
  clear hB ho hd hl hr
  go_enter Tryz.func115, Tryz.ntmps115
  go_wp2_with fail
  refine HA.out.mono ?_
  rintro e w1 ⟨A, c, ps, rfl, ha, hr, hb⟩
  have hle := ha.len
  have HS := Lib.hid (sort_any w1 w.heap.size A c ps hr (by have := HL.out.2; omega))
  have HH := Lib.hid (And.intro ha (And.intro hr hb))
  clear ha hr hb hle
  go_wp2_with fail
  refine HS.out.mono ?_
  rintro e w2 ⟨rfl, qs, hp, hs, hsl, hc⟩
  have HF := Lib.hid (And.intro hp (And.intro hs (And.intro hsl hc)))
  clear hp hs hsl hc
  go_wp2_with fail
  go_ret
  obtain ⟨hp, hs, hsl, hc⟩ := HF.out
  obtain ⟨ha, -, hb⟩ := HH.out
  have he := all_list ha HL.out.1 hp hs
  have hlen : ps.length = l.length := by rw [<- he, List.length_map, hp.length_eq]
  have hb2 : Below w.heap.size w w2 := hb.trans (hc.below (fun k hk e => by omega) hb.size)
  have hpts := ((pts_of HD.out ha hp he).after hb2)
  refine ⟨A, c, by rw [<- hlen]; rfl, ⟨_, hpts.weaken (fun k _ hk => hk.1), ?_⟩, hb2⟩
  have h1 : flatP l (qs.map (·.2)) = flatR qs := by
    have h2 := flat_zip qs
    rw [he] at h2
    exact h2
  rw [h1, <- hlen]
  exact hsl.weaken (fun k _ hk => hk.2)
set_option maxHeartbeats 2000000 in
theorem hlist_any (w : World) (S : Nat -> Prop) (g : Nat) (l : List Pd) (h : Hd w S g l) :
    Calls Tryz.prog 95 #[.pointer (some ⟨g, 0, none⟩)] w fun e w' => ∃ A c, e = .returned (.slice A l.length c) /\ PL w' (fun k => ¬ S k /\ k < w.heap.size) (.slice A l.length c) l /\ Below w.heap.size w w' := by
  obtain ⟨m, D, hb, hgS, hmS, hgm, ho, hd, hr, hvl, hll⟩ := h
  have c0 : w.cell? ⟨g, 0, none⟩ = some (.map (some m)) := hb.cell 0
  have HM := Lib.hid (made_on w g m hb)
  have hb1 : Below w.heap.size w (w.alloc (.cells #[.map (some m)] 99)) := (Below.refl _ w).alloc (Nat.le_refl _) _
  have HS := Lib.hid (sorted_any (w.alloc (.cells #[.map (some m)] 99)) _ w.heap.size m l.length D l (Blk.new w _ _) (map_ch ho (Ch.of_below (S := fun _ => False) hb1 (Nat.le_refl _)) (fun h => h)) (hd.after hb1) hr hll)
  have HB := Lib.hid hb1
  clear hb ho hd hr hvl hll hgS hmS hgm hb1
  go_enter Tryz.func95, Tryz.ntmps95
  go_wp2_with fail
  refine HM.out.mono ?_
  rintro e w1 ⟨rfl, rfl⟩
  go_wp2_with fail
  refine (values_any _ _).mono ?_
  rintro e w1 ⟨rfl, rfl⟩
  go_wp2_with fail
  refine HS.out.mono ?_
  rintro e w2 ⟨A, c, rfl, hp, hb2⟩
  have HR := Lib.hid (And.intro hp hb2)
  clear hp hb2
  go_wp2_with fail
  go_ret
  exact ⟨A, c, rfl, HR.out.1.weaken (fun k _ hk => ⟨.inl hk.1, by have := HB.out.size; have := hk.2; omega⟩), HB.out.trans (HR.out.2.mono HB.out.size)⟩
theorem hlist_un (w : World) (v : Value) (h : UnH w v) : Calls Tryz.prog 95 #[v] w fun e w' => e = .returned (.slice none 0 0) /\ w = w' := by
  have HM := Lib.hid (made_un w v h)
  clear h
  go_enter Tryz.func95, Tryz.ntmps95
  go_wp2_with fail
  refine HM.out.mono ?_
  rintro e w1 ⟨rfl, rfl⟩
  go_wp2_with fail
  go_ret
  exact ⟨rfl, rfl⟩
end Go.Proofs.YtmhmnkpaijoaaaaGreat.Pun
namespace Go.Proofs.YtmhmnkpaijoaaaaGreat.Puo
set_option linter.unusedSimpArgs false
open Go Go.RowKit Go.Shelf Ck Cf Ci Kw Ga Kf Pm Pe Pg Ik Lk Jm Ja Jb Jf Jg Jl Jn Kc Kj Pra Prb Prc Prd Pre Prf Prn Prr Prx Psg Psh Psx Pta Ptd Pte Pth Pua Kr Kv Pub Puc Pue Puf Puk Pul Pum Pun
attribute [local go_sem ↓] Go.wp_at_zero Go.wp_at_succ
attribute [local go_sem] Oper.semAt_some
set_option linter.unusedVariables false
set_option maxRecDepth 100000
abbrev AF (g : Nat) : Value := .func (.func 96) #[] #[.pointer (some ⟨g, 0, none⟩)]
theorem pall_any (w : World) (S : Nat -> Prop) (g : Nat) (l : List Pd) (h : Hd w S g l) :
    Calls Tryz.prog 62 #[.pointer (some ⟨g, 0, none⟩)] w fun e w' => ∃ Bn A c, e = .returned (AF Bn) /\ w.heap.size <= Bn /\ Blk w' Bn 30 #[.slice A l.length c] /\ PL w' (fun k => ¬ S k /\ k < w.heap.size) (.slice A l.length c) l /\ Below w.heap.size w w' := by
  have HL := Lib.hid (hlist_any w S g l h)
  clear h
  go_enter Tryz.func62, Tryz.ntmps62
  go_wp2_with fail
  refine HL.out.mono ?_
  rintro e w1 ⟨A, c, rfl, hp, hb⟩
  have HR := Lib.hid (And.intro hp hb)
  clear hp hb
  go_wp2_with fail
  go_ret
  have hb2 : Below w1.heap.size w1 (w1.alloc (.cells #[.slice A l.length c] 30)) := (Below.refl _ w1).alloc (Nat.le_refl _) _
  exact ⟨_, A, c, rfl, HR.out.2.size, Blk.new w1 _ _, HR.out.1.after hb2, HR.out.2.trans (hb2.mono HR.out.2.size)⟩
theorem pall_un (w : World) (v : Value) (h : UnH w v) :
    Calls Tryz.prog 62 #[v] w fun e w' => ∃ Bn, e = .returned (AF Bn) /\ w.heap.size <= Bn /\ Blk w' Bn 30 #[.slice none 0 0] /\ Below w.heap.size w w' := by
  have HL := Lib.hid (hlist_un w v h)
  clear h
  go_enter Tryz.func62, Tryz.ntmps62
  go_wp2_with fail
  refine HL.out.mono ?_
  rintro e w1 ⟨rfl, rfl⟩
  go_wp2_with fail
  go_ret
  have hb2 : Below w.heap.size w (w.alloc (.cells #[.slice none 0 0] 30)) := (Below.refl _ w).alloc (Nat.le_refl _) _
  exact ⟨_, rfl, Nat.le_refl _, Blk.new w _ _, hb2⟩
def ArgC (B : Nat) (p : Pd) (args : Array Value) (W : World) : Prop := ∃ r, args = #[.agg (PC p r)] /\ PI W (fun k => k < B) p r
set_option maxHeartbeats 8000000 in
theorem all_seq (n : Nat) (hn : 2 <= n) (S : Nat -> Prop) (w : World) (Bn : Nat) (A : Option Addr) (c : Nat) (l : List Pd) (hB : Blk w Bn 30 #[.slice A l.length c]) (hBS : ¬ S Bn) (hp : PL w S (.slice A l.length c) l) (hok : ∀ p ∈ l, okV p) (hl : l.length <= 1599289640355) :
    SeqL Fence.wide n Tryz.prog 96 #[.pointer (some ⟨Bn, 0, none⟩)] 0 l.length ArgC (fun ps => ps = l) S w := by
  intro l' J Jx W hW hsz hno hJ hJx hY h0
  have cB : W.cell? ⟨Bn, 0, none⟩ = some (.slice A l.length c) := (hB.below hW hB.lt).cell 0
  have HPL := Lib.hid (hp.after hW)
  have HJ := Lib.hid hJ
  have HY := Lib.hid hY
  have HOK := Lib.hid hok
  have hli : (l.length : Int) <= 1599289640355 := by omega
  have hJ0 : J (l.take 0) W := h0
  clear hB hp hJ hJx hY hno hok h0 hl
  refine callsIn_of_wp Tryz.func96 rfl trivial ?_ rfl
  simp only [Tryz.ntmps96, List.size_toArray, List.length_cons, List.length_nil, Nat.reduceAdd, Nat.reduceSub, Array.replicate_succ, Array.replicate_zero, List.push_toArray, List.append_toArray, List.nil_append, List.cons_append]
  gi_wp2
  clear cB
  gi_loopw [7] (fun p wr => ∃ k : Nat, k <= l.length /\ p = .int .i64 (k : Int) /\ J (l.take k) wr /\ Ch S W wr) (fun p _ => l.length - (intOf p).toNat)
  case atStart => exact ⟨0, Nat.zero_le _, rfl, hJ0, Ch.refl _ _⟩
  case round =>
    obtain ⟨k, hk, rfl, hJs, hcs⟩ := hrel
    by_cases hlt : k < l.length
    . have hpl := HPL.out.ch hcs (fun k _ h => h)
      obtain ⟨ad, r, rfl, hat, hpi⟩ := hpl.at_ hlt
      obtain ⟨a0, a1, a2, a3, a4, a5, a6⟩ := hat
      have HPI := Lib.hid hpi
      have hokv := HOK.out _ (List.getElem_mem hlt)
      have HTK := Lib.hid (List.take_succ_eq_append_getElem hlt)
      have HKL := Lib.hid hlt
      generalize l[k] = x at *
      have HOV := Lib.hid hokv
      have hw0 : IntKind.i64.wrap (k : Int) = (k : Int) := Ga.wrap64 (by omega) (by omega)
      have hltI : (k : Int) < (l.length : Int) := by omega
      have hkp : (0 : Int) <= (k : Int) := by omega
      have HC := Lib.hid hcs
      have HJS := Lib.hid hJs
      clear hpl hpi hokv hcs hJs hlt hJ0
      gi_wp2_with fail
      have hb1 : Below wr.heap.size wr (wr.alloc (.cells (PC x r) 41)) := (Below.refl _ wr).alloc (Nat.le_refl _) _
      have HPC := Lib.hid (pclone_any _ _ x r (HPI.out.after hb1) HOV.out)
      have HB1 := Lib.hid hb1
      clear hb1
      unfold PC at HPC HB1
      refine ⟨trivial, fun h => (wide_some h).elim, callsIn_wide.2 (HPC.out.mono ?_)⟩
      rintro e w3 ⟨q, rfl, hown⟩
      have hb3 : Below wr.heap.size wr w3 := HB1.out.trans (hown.below.mono HB1.out.size)
      obtain ⟨fn, tmps, assign, body, hy, hRd⟩ := HY.out (l.take k) x #[.agg (PC x q)] wr w3 HJS.out (by rw [List.length_take]; have := HKL.out; omega) HC.out (by have := HC.out.size; omega) (Ch.of_below hb3 (Nat.le_refl _)) ⟨q, rfl, hown.pi.weaken (fun k _ hk => by have := HB1.out.size; show k < _; have hk' : k < wr.heap.size := hk; omega)⟩
      have HRD := Lib.hid hRd
      have HC3 : Hid (Ch S W w3) := Lib.hid (HC.out.trans (Ch.of_below (S := fun _ => False) hb3 (Nat.le_refl _)) (fun _ _ h => h.elim))
      clear hRd hb3 hown a0 a1 a2 a3 a4 a5 a6
      unfold PC at hy
      gi_wp2_with fail
      refine ⟨fun h => (wide_some h).elim, HRD.out.mono ?_⟩
      rintro e W3 (⟨rfl, hJ3, hc3⟩ | ⟨rfl, hJx3, hc3⟩)
      . have HC4 := Lib.hid (HC3.out.trans hc3 (fun _ _ h => h))
        have HJ3 : Hid (J (l.take (k + 1)) W3) := Lib.hid (by rw [HTK.out]; exact hJ3)
        clear hJ3 hc3 hy
        gi_wp2_with fail
        go_roundw
        case rel => exact ⟨k + 1, by have := HKL.out; omega, by go_num, HJ3.out, HC4.out⟩
        case measure => have := HKL.out; simp [intOf]; omega
      . have HC4 := Lib.hid (HC3.out.trans hc3 (fun _ _ h => h))
        have HJ3 := Lib.hid hJx3
        clear hJx3 hc3 hy
        gi_wp2_with fail
        refine bodyPost_ret (results_none rfl _ _ _) rfl ?_
        exact ⟨⟨_, rfl⟩, HC4.out, .inr ⟨_, HJ3.out⟩⟩
    . have hke : k = l.length := by omega
      subst hke
      rw [List.take_length] at hJs
      have HC := Lib.hid hcs
      have HJ1 := Lib.hid hJs
      have hltI : ¬ (l.length : Int) < (l.length : Int) := by omega
      clear hcs hJs hlt hJ0
      gi_wp2_with fail
      refine bodyPost_end (results_none rfl _ _ _) rfl ?_
      exact ⟨⟨_, rfl⟩, HC.out, .inl HJ1.out⟩
end Go.Proofs.YtmhmnkpaijoaaaaGreat.Puo
namespace Go.Proofs.YtmhmnkpaijoaaaaGreat.Pup
set_option linter.unusedSimpArgs false
open Go Go.RowKit Go.Shelf Ck Cf Ci Kw Ga Kf Pm Pe Pg Ik Lk Jm Ja Jb Jf Jg Jl Jn Kc Kj Pra Prb Prc Prd Pre Prf Prn Prr Prx Psg Psh Psx Pta Ptd Pte Pth Pua Kr Kv Pub Puc Pue Puf Puk Pul Pum Pun Puo
attribute [local go_sem ↓] Go.wp_at_zero Go.wp_at_succ
attribute [local go_sem] Oper.semAt_some
set_option linter.unusedVariables false
set_option maxRecDepth 100000
def actC (v : Value) (Bn gl : Nat) (args : Array Value) (g : Nat) : Act :=
  match args with
  | ⟨[x]⟩ => { tmps := #[v, undef, .slice none 0 0, .pointer (some ⟨gl, 0, none⟩), .pointer (some ⟨g, 0, none⟩), v, AF Bn, x, undef, undef, undef, undef, undef], defers := [] }
  | _ => { tmps := #[], defers := [] }
def IC (gl B : Nat) (ps : List Pd) (W : World) : Prop :=
  ∃ A c rs, Blk W gl 30 #[.slice A ps.length c] /\ W.ownsRow B 41 7 (.slice A ps.length c) ps.length (flatP ps rs) /\ Pts W (fun k => k < B \/ (Value.slice A ps.length c).ownBlock = some k) ps rs
theorem ic_fin {gl B D N0 : Nat} {T : Nat -> Prop} {k : List Pd} {x : Pd} {rx : Pl2} {rs : List Pl2} {A A2 : Option Addr} {c c2 : Nat} {Wk Wa w3 : World} (hk : Blk Wk gl 30 #[.slice A k.length c]) (hr : Wk.ownsRow B 41 7 (.slice A k.length c) k.length (flatP k rs)) (hp : Pts Wk (fun q => q < B \/ (Value.slice A k.length c).ownBlock = some q) k rs)
    (hx : PI Wk (fun q => q < N0) x rx) (hN : ∀ q, (Value.slice A k.length c).ownBlock = some q -> q < N0) (hB : B <= N0) (hg : gl < B) (ha : Below Wk.heap.size Wk Wa)
    (happ : Appended Wa B 41 7 (.slice A k.length c) (k.length + 1) (flatP k rs ++ (PC x rx).toList) (.slice A2 (k.length + 1) c2) w3) (hT : ∀ q, (q = gl \/ B <= q) -> T q /\ ¬ Bk D q) :
    Blk w3 gl 30 #[.slice A k.length c] /\ Ch (fun j => T j /\ ¬ Bk D j) Wk (w3.setCell ⟨gl, 0, none⟩ (.slice A2 (k.length + 1) c2)) /\ IC gl B (k ++ [x]) (w3.setCell ⟨gl, 0, none⟩ (.slice A2 (k.length + 1) c2)) := by
  have hra := own_below hr ha
  have hka := hk.below ha hk.lt
  have c3 : Ch (fun q => (Value.slice A k.length c).ownBlock = some q) Wa w3 := Ch.of_grown happ.2.1 (fun q hq _ => hq)
  have hk3 := hka.ch c3 (own_far hra hka (by decide))
  have cs : Ch (fun q => q = gl) w3 (w3.setCell ⟨gl, 0, none⟩ (.slice A2 (k.length + 1) c2)) := Ch.setCell (Ch.refl (fun q => q = gl) w3) (p := ⟨gl, 0, none⟩) (fun _ => rfl) _
  have hall : Pts Wk (fun q => q < B \/ (Value.slice A k.length c).ownBlock = some q) (k ++ [x]) (rs ++ [rx]) := hp.app (Pts.one (hx.weaken (fun q _ hq => by
    rcases hq with hq | hq
    . show q < N0; omega
    . exact hN q hq)))
  have h3 := ((pts_old (hall.after ha) (Nat.le_refl Wa.heap.size)).ch c3 (fun q _ hq => .inl (.inr hq))).ch cs (fun q _ hq => .inl (.inl (by omega)))
  refine ⟨hk3, ((Ch.of_below (S := fun j => T j /\ ¬ Bk D j) ha (Nat.le_refl _)).trans (c3.mono (T := fun j => T j /\ ¬ Bk D j) (fun q _ hq => hT q (.inr (hra.lt q hq).1))) (fun _ _ h => h)).trans (cs.mono (T := fun j => T j /\ ¬ Bk D j) (fun q _ hq => hT q (.inl hq))) (fun _ _ h => h), ⟨A2, c2, rs ++ [rx], ?_, ?_, ?_⟩⟩
  . have := hk3.set_ 0 (.slice A2 (k.length + 1) c2)
    simpa using this
  . have h1 := own_ch happ.1 cs (fun q hq e => own_far happ.1 hk3 (by decide) (by rw [hq, e]))
    rw [flatP_app hp.1, flatP_single]
    simpa using h1
  . have hlen : (k ++ [x]).length = k.length + 1 := by simp
    rw [hlen]
    refine h3.weaken (fun q _ hq => ?_)
    rcases hq with hq | hq
    . exact .inl (.inl hq)
    . rcases happ.2.2 with e | e
      . rw [e] at hq; exact .inl (.inr hq)
      . rw [e] at hq
        have := Option.some.inj hq
        exact .inr (by omega)
set_option maxHeartbeats 8000000 in
theorem all_over (w : World) (v : Value) (l : List Pd) (hl : l.length <= 1599289640355) (hok : ∀ p ∈ l, okV p)
    (HA : ∀ W, Below w.heap.size w W -> W.heap.size = w.heap.size + 1 -> Calls Tryz.prog 62 #[v] W fun e w' => ∃ Bn A c, e = .returned (AF Bn) /\ W.heap.size <= Bn /\ Blk w' Bn 30 #[.slice A l.length c] /\ PL w' (fun k => k = w.heap.size) (.slice A l.length c) l /\ Below W.heap.size W w') :
    Calls Tryz.prog 27 #[v] w fun e w' => ∃ u, e = .returned u /\ PL w' (fun _ => False) u l /\ Below w.heap.size w w' := by
  refine (callsIn_wide (n := 6)).1 ?_
  refine callsIn_of_wp_marks Tryz.func27 rfl trivial ?_ rfl
  simp only [Tryz.ntmps27, List.size_toArray, List.length_cons, List.length_nil, Nat.reduceAdd, Nat.reduceSub, Array.replicate_succ, Array.replicate_zero, List.push_toArray, List.append_toArray, List.nil_append, List.cons_append]
  have hb1 : Below w.heap.size w (w.alloc (.cells #[.slice none 0 0] 30)) := (Below.refl _ w).alloc (Nat.le_refl _) _
  have hk1 : Blk (w.alloc (.cells #[.slice none 0 0] 30)) w.heap.size 30 #[.slice none 0 0] := Blk.new w _ _
  have hs1 : (w.alloc (.cells #[.slice none 0 0] 30)).heap.size = w.heap.size + 1 := by simp
  have HK1 := Lib.hid hk1
  have HB1 := Lib.hid hb1
  have HS1 := Lib.hid hs1
  have HL := Lib.hid (And.intro hl hok)
  have HAA := Lib.hid (HA _ hb1 hs1)
  clear hk1 hb1 hs1 hl hok HA
  gi_wp2_with fail
  generalize w.alloc (.cells #[.slice none 0 0] 30) = w1 at *
  refine ⟨trivial, callsIn_wide.2 (HAA.out.mono ?_)⟩
  rintro e w2 ⟨Bn, A0, c0, rfl, hBn, hB, hp, hb2⟩
  have hs1 := HS1.out
  have hs2 := hb2.size
  have hBl := hB.lt
  have hk2 := HK1.out.below hb2 HK1.out.lt
  have HSEQ := Lib.hid (all_seq 5 (by omega) (fun k => k = w.heap.size \/ w2.heap.size <= k) w2 Bn A0 c0 l hB (fun h => by omega) ((pl_old hp (Nat.le_refl _)).weaken (fun k _ hk => hk)) HL.out.2 HL.out.1)
  have HB2 := Lib.hid (HB1.out.trans (hb2.mono HB1.out.size))
  have HK2 := Lib.hid hk2
  clear hB hp hb2 hk2 HAA
  gi_wp2_with fail
  refine wpIn_rangeL rfl (by omega) (gf := 96) (lb := #[.pointer (some ⟨Bn, 0, none⟩)]) rfl trivial (enters_of Tryz.func96 (by kernel_rfl) rfl) HSEQ.out (fun k hk h => .inr hk) (fun k h1 h2 h => by omega)
    (fun B p args W hh => by obtain ⟨r, h1, -⟩ := hh; rw [h1]; rfl) (fun B p args W W' hh hB' cc => by
      obtain ⟨r, h1, h2⟩ := hh
      exact ⟨r, h1, h2.ch cc (fun q _ hq => by show q < B; rcases hq with hq | hq <;> omega)⟩)
    (IC w.heap.size (w2.heap.size + 2)) (fun _ _ _ => False)
    (fun k Wa Wb hh hs c => by
      obtain ⟨A, cc, rs, h1, h2, h3⟩ := hh
      exact ⟨A, cc, rs, h1.ch c (fun h => by have h : w2.heap.size <= w.heap.size /\ w.heap.size < w2.heap.size + 2 + 0 := h; omega), own_ch h2 c (fun q hq h => by have := (h2.lt q hq).1; have h : w2.heap.size <= q /\ q < w2.heap.size + 2 + 0 := h; omega), h3.ch c (fun q _ h => .inl (by have h : w2.heap.size <= q /\ q < w2.heap.size + 2 + 0 := h; omega))⟩) (fun cc k Wa Wb hh hs c => hh) ⟨none, 0, [], HK2.out, World.ownsRow_nil _ _ _ _, Pts.nil⟩ (actC v Bn w.heap.size) obS ?assign ?body ?done ?stop
  case assign =>
    intro l' B x args W K hr hK
    obtain ⟨r, rfl, -⟩ := hr
    dsimp only [actC, obS] at hK
    unfold PC at hK ⊢
    gi_wp2_with fail
    exact hK
  case stop => exact fun _ _ _ _ h _ => h.elim
  case done =>
    intro k Wd hE hcw hi hd
    obtain rfl : k = l := hE
    obtain ⟨A, c, rs, h1, h2, h3⟩ := hi
    have q0 : Wd.cell? ⟨w.heap.size, 0, none⟩ = some (.slice A k.length c) := h1.cell 0
    have HE := Lib.hid (And.intro h2 h3)
    have HBW : Hid (Below w.heap.size w Wd) := Lib.hid (HB2.out.trans (hcw.below (B := w.heap.size) (fun q hq h => by omega) HB2.out.size))
    have HD := Lib.hid hd
    clear h3 h2 h1 hcw hd
    gi_wp2_with fail
    refine ⟨by simp, .inl ⟨_, _, rfl, run_takeDeferred HD.out, ?_⟩⟩
    refine ⟨_, results_tmp rfl _ _ _, ?_⟩
    have hP := ch_putObj Wd w2.heap.size (.deferred none)
    have ho := own_ch HE.out.1 hP (fun q hq hX => by have := (HE.out.1.lt q hq).1; omega)
    exact ⟨_, rfl, ⟨rs, (HE.out.2.ch hP (fun q _ hq => .inl (by omega))).weaken (fun _ _ h => h.elim), Sl.of_own ho (fun _ _ _ h => h)⟩, HBW.out.trans (hP.below (fun k hk h => by omega) HBW.out.size)⟩
  case body =>
    intro l' k x args W0 Wk g hlt hN hcw hi hcc hr hob hg
    obtain ⟨rx, rfl, hpx⟩ := hr
    obtain ⟨A, c, rs, h1, h2, h3⟩ := hi
    have hown : ∀ q, (Value.slice A k.length c).ownBlock = some q -> q < W0.heap.size := fun q hq => (h2.lt q hq).2
    have h1 := h1.ch hcc (fun h => by have h : w2.heap.size <= w.heap.size /\ w.heap.size < w2.heap.size + 2 + 0 := h; omega)
    have h2 := own_ch h2 hcc (fun q hq h => by have := (h2.lt q hq).1; have h : w2.heap.size <= q /\ q < w2.heap.size + 2 + 0 := h; omega)
    have h3 := h3.ch hcc (fun q _ h => .inl (by have h : w2.heap.size <= q /\ q < w2.heap.size + 2 + 0 := h; omega))
    have hgb : Blk Wk g 41 (PC x rx) := hob
    have q0 : Wk.cell? ⟨w.heap.size, 0, none⟩ = some (.slice A k.length c) := h1.cell 0
    have f0 := h1.frozen 0
    have hkl : k.length + 1 <= 1599289640355 := by have := HL.out.1; omega
    obtain ⟨i0, hi0, hz0, hz1, hz2⟩ := info_parts Puk.info_prep
    have HR := Lib.hid h2
    have HK := Lib.hid h1
    have HP := Lib.hid (And.intro h3 (And.intro hpx (And.intro hown hlt)))
    have hbs : w2.heap.size + 2 <= Wk.heap.size := by have := hgb.lt; omega
    clear hob h1 h2 hcc h3 hpx hown
    unfold PC at hgb
    have e0 := hgb.cell 0
    have e1 := hgb.cell 1
    have e2 := hgb.cell 2
    have e3 := hgb.cell 3
    have e4 := hgb.cell 4
    have e5 := hgb.cell 5
    have e6 := hgb.cell 6
    simp only [List.getElem?_toArray, List.getElem?_cons_zero, List.getElem?_cons_succ] at e0 e1 e2 e3 e4 e5 e6
    clear hgb
    dsimp only [actC]
    unfold PC
    gi_wp2_with (gi_at_builtin; refine wpListIn_append_one rfl (.tmp 8) (.tmp 10) _ rfl (w2.heap.size + 2) 41 i0 _ 7 88 Tryz.underlying30 hi0 hz0 hz1 hz2 rfl (by omega) (.slice A k.length c) k.length (flatP k rs) rfl (HR.out.alloc _) ⟨Wk.heap.size, 0, none⟩ 1 (PC x rx).toList rfl rfl (new_cells Wk (PC x rx) 41) (PC_one x rx) (by simp only [maxLen]; omega) (grow_cap hkl) (by rw [World.size_alloc]; omega) ?_; intro A2 c2 w3 happ; have HFN := Lib.hid (ic_fin (D := w2.heap.size) (T := fun k => k = w.heap.size \/ w2.heap.size <= k) HK.out HR.out HP.out.1 HP.out.2.1 HP.out.2.2.1 (by have := HP.out.2.2.2; omega) (by omega) ((Below.refl _ Wk).alloc (Nat.le_refl _) _) happ (fun q hq => ⟨by omega, fun hb => by have hb : q = w2.heap.size \/ q = w2.heap.size + 1 := hb; omega⟩)); have p3 := HFN.out.1.cell 0; have f3 := HFN.out.1.frozen 0; simp only [List.getElem?_toArray, List.getElem?_cons_zero] at p3; clear happ)
    exact HFN.out.2
theorem all_any (w : World) (S : Nat -> Prop) (g : Nat) (l : List Pd) (h : Hd w S g l) (hl : l.length <= 1599289640355) (hok : ∀ p ∈ l, okV p) :
    Calls Tryz.prog 27 #[.pointer (some ⟨g, 0, none⟩)] w fun e w' => ∃ u, e = .returned u /\ PL w' (fun _ => False) u l /\ Below w.heap.size w w' :=
  all_over w _ l hl hok (fun W b hs => (pall_any W (fun k => k < w.heap.size) g l ((h.weaken (fun k hk _ => hk)).later b)).mono (by
    rintro e w' ⟨Bn, A, c, he, h1, h2, h3, h4⟩
    exact ⟨Bn, A, c, he, h1, h2, h3.weaken (fun k _ hk => by subst hk; exact ⟨by omega, by omega⟩), h4⟩))
theorem all_un (w : World) (v : Value) (h : UnH w v) :
    Calls Tryz.prog 27 #[v] w fun e w' => ∃ A c, e = .returned (.slice A 0 c) /\ Below w.heap.size w w' :=
  (all_over w v [] (by simp) (fun p hp => by simp at hp) (fun W b hs => (pall_un W v (h.later b)).mono (by
    rintro e w' ⟨Bn, he, h1, h2, h3⟩
    exact ⟨Bn, none, 0, he, h1, h2, PL.nil _ _, h3⟩))).mono (by
    rintro e w' ⟨u, he, hp, hb⟩
    obtain ⟨A, c, rfl, -⟩ := hp.shape
    exact ⟨A, c, he, hb⟩)
end Go.Proofs.YtmhmnkpaijoaaaaGreat.Pup
