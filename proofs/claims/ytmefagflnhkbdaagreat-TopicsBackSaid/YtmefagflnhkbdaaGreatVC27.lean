/-
  Layer 7: two topics apart; Digest; what a table that is new answers.
-/
import Derived.Test.YtmefagflnhkbdaaGreatVC22
import Derived.Test.YtmefagflnhkbdaaGreatVC17
import Derived.Test.YtmefagflnhkbdaaGreatVC25
import Derived.Test.YtmefagflnhkbdaaGreatVC26
import Derived.Deep.RegionLaw
namespace Go.Proofs.YtmefagflnhkbdaaGreat.Xh
set_option linter.unusedSimpArgs false
open Go Go.RowKit Ck Kw Ga Kf Pm Pe Pg Py Tm Tn Tq Ik Aa Ab Ac Ad Ae Af Ag Ah Ai Aj Al An Ao Xg
open Im (num isIn add sum)
attribute [local go_sem ↓] Go.wp_at_zero Go.wp_at_succ
set_option linter.unusedVariables false
set_option maxRecDepth 100000

/-- Two topics, apart, in none of the blocks N. -/
def Duo (N : Nat → Prop) (w : World) (p q : Nat) (s t : St) : Prop :=
  ∃ S1 R1 S2 R2, Tz w S1 R1 p s ∧ Tz w S2 R2 q t ∧ (∀ k, S1 k → ¬ S2 k ∧ ¬ R2 k) ∧ (∀ k, S2 k → ¬ R1 k) ∧ ∀ k, (S1 k ∨ R1 k ∨ S2 k ∨ R2 k) → ¬ N k ∧ k < w.heap.size
section
variable {N N' X : Nat → Prop} {p q : Nat} {w w' : World} {s t s' : St}
theorem Duo.swap (h : Duo N w p q s t) : Duo N w q p t s := by
  obtain ⟨S1, R1, S2, R2, h1, h2, h3, h4, h5⟩ := h
  exact ⟨S2, R2, S1, R1, h2, h1, fun k hk => ⟨fun h => (h3 k h).1 hk, h4 k hk⟩, fun k hk => (h3 k hk).2, fun k hk => h5 k (by rcases hk with h | h | h | h; exact .inr (.inr (.inl h)); exact .inr (.inr (.inr h)); exact .inl h; exact .inr (.inl h))⟩
theorem Duo.ch (h : Duo N w p q s t) (c : Ch X w w') (hx : ∀ k, X k → N k ∨ w.heap.size ≤ k) : Duo N w' p q s t := by
  obtain ⟨S1, R1, S2, R2, h1, h2, h3, h4, h5⟩ := h
  have hs := c.size
  have key : ∀ k, (S1 k ∨ R1 k ∨ S2 k ∨ R2 k) → ¬ X k := fun k hk hX => by
    have := h5 k hk
    rcases hx k hX with q | q
    · exact this.1 q
    · omega
  exact ⟨S1, R1, S2, R2, h1.ch c (fun k hk => key k (.inl hk)) (fun k hk => key k (.inr (.inl hk))), h2.ch c (fun k hk => key k (.inr (.inr (.inl hk)))) (fun k hk => key k (.inr (.inr (.inr hk)))), h3, h4, fun k hk => ⟨(h5 k hk).1, by have := (h5 k hk).2; omega⟩⟩
theorem Duo.later (h : Duo N w p q s t) (b : Below w.heap.size w w') : Duo N w' p q s t := h.ch (Ch.of_below (S := fun _ => False) b (Nat.le_refl _)) (fun _ h => h.elim)
theorem Duo.weaken (h : Duo N w p q s t) (hn : ∀ k, N' k → N k ∨ w.heap.size ≤ k) : Duo N' w p q s t := by
  obtain ⟨S1, R1, S2, R2, h1, h2, h3, h4, h5⟩ := h
  exact ⟨S1, R1, S2, R2, h1, h2, h3, h4, fun k hk => ⟨fun h => by
    have := h5 k hk
    rcases hn k h with q | q
    · exact this.1 q
    · omega, (h5 k hk).2⟩⟩
/-- What is made beside them is none of them. -/
theorem Duo.skip (h : Duo N w p q s t) (b : Below w.heap.size w w') : Duo (fun k => N k ∨ w.heap.size ≤ k) w' p q s t :=
  (h.weaken (N' := fun k => N k ∨ w.heap.size ≤ k) (fun k hk => hk)).later b
theorem Duo.good (h : Duo N w p q s t) : GoodS s ∧ GoodS t := by
  obtain ⟨S1, R1, S2, R2, h1, h2, h3⟩ := h
  exact ⟨h1.good, h2.good⟩
theorem Duo.bytes (h : Duo N w p q s t) : Calls Tryz.prog 17 #[.pointer (some ⟨p, 0, none⟩)] w fun e w' => Made w 5 (stB s) e w' := by
  obtain ⟨S1, R1, S2, R2, h1, h2, h3, h4, h5⟩ := h
  exact Bu.bytes_all w S1 R1 p s h1 (fun k hk => (h5 k (.inl hk)).2)
theorem Duo.one (h : Duo N w p q s t) : ∃ S R, Tz w S R p s ∧ (∀ k, S k → k < w.heap.size) := by
  obtain ⟨S1, R1, S2, R2, h1, h2, h3, h4, h5⟩ := h
  exact ⟨S1, R1, h1, fun k hk => (h5 k (.inl hk)).2⟩
theorem Duo.start {S R : Nat → Prop} (h : On N w p s) (b : Below w.heap.size w w') (hz : Tz w' S R q t) (hS : ∀ k, S k → w.heap.size ≤ k ∧ k < w'.heap.size) (hR : ∀ k, R k → w.heap.size ≤ k) : Duo (fun k => N k ∧ k < w.heap.size) w' p q s t := by
  obtain ⟨S1, R1, h1, h2, h3⟩ := h
  have hs := b.size
  refine ⟨S1, R1, S, R, h1.later b, hz, fun k hk => ⟨fun h => ?_, fun h => ?_⟩, fun k hk h => ?_, fun k hk => ?_⟩
  · have := (h2 k hk).2; have := hS k h; omega
  · have := (h2 k hk).2; have := hR k h; omega
  · have := (Tz.rlt h1 k h).2; have := hS k hk; omega
  · rcases hk with hk | hk | hk | hk
    · exact ⟨fun hN => (h2 k hk).1 hN.1, by have := (h2 k hk).2; omega⟩
    · exact ⟨fun hN => h3 k hk hN.1, by have := (Tz.rlt h1 k hk).2; omega⟩
    · exact ⟨fun hN => by have := hS k hk; omega, (hS k hk).2⟩
    · exact ⟨fun hN => by have := hR k hk; omega, (Tz.rlt hz k hk).2⟩
/-- The first one is asked. -/
theorem Duo.ask {X : Nat → Prop} {client time : Int} {o : O} {A : Option Addr} {c : Nat} {k off : Int} {b : Bool} {pl : List (Tx × Int × Tx)} (h : Duo N w p q s t) (hN : ∀ k, N k → k < w.heap.size) (hls : Ls w X (.slice A o.recs.length c) o.recs) (hl : o.recs.length ≤ 140737488355328) (ha : appS s client time o = ((k, off), pl, b, s')) :
    Calls Tryz.prog 9 #[.pointer (some ⟨p, 0, none⟩), RV client time o A c] w fun e w' => ∃ v B, e = .returned (.tuple #[.agg #[.int .i64 k, .int .i64 off], v, .bool b]) ∧ w.heap.size ≤ B ∧ B ≤ w'.heap.size ∧ Ps w' B v pl ∧ Duo (fun k => N k ∨ B ≤ k) w' p q s' t ∧ Ch (fun k => ¬ N k ∧ k < w.heap.size) w w' := by
  obtain ⟨S1, R1, S2, R2, h1, h2, h3, h4, h5⟩ := h
  refine (apply_any w S1 R1 p s client time o X A c h1 hls hl).mono ?_
  intro e w' he
  unfold Asked at he
  rw [ha] at he
  obtain ⟨v, B, hv, hB, hp, S', R', g1, g2, g3, g4⟩ := he
  have hs := g4.size
  have hc := g4.mono (T := fun k => ¬ N k ∧ k < w.heap.size) (fun k hk hs => h5 k (.inl hs))
  by_cases hBw : B ≤ w'.heap.size
  · refine ⟨v, B, hv, hB, hBw, hp, ⟨_, R', S2, R2, Tz.bound g1, h2.ch g4 (fun k hk hX => (h3 k hX).1 hk) (fun k hk hX => (h3 k hX).2 hk), fun k hk => ?_, fun k hk hR => ?_, fun k hk => ?_⟩, hc⟩
    · have := g2 k hk.1
      rcases this.1 with q | q
      · exact h3 k q
      · exact ⟨fun h => by have := (h5 k (.inr (.inr (.inl h)))).2; omega, fun h => by have := (h5 k (.inr (.inr (.inr h)))).2; omega⟩
    · have := g3 k hR
      rcases this.1 with q | q
      · exact h4 k hk q
      · have := (h5 k (.inr (.inr (.inl hk)))).2; omega
    · rcases hk with hk | hk | hk | hk
      · refine ⟨fun hN' => ?_, hk.2⟩
        have := g2 k hk.1
        rcases hN' with hN' | hN'
        · rcases this.1 with q | q
          · exact (h5 k (.inl q)).1 hN'
          · have := hN k hN'; omega
        · omega
      · refine ⟨fun hN' => ?_, (Tz.rlt g1 k hk).2⟩
        have := g3 k hk
        rcases hN' with hN' | hN'
        · rcases this.1 with q | q
          · exact (h5 k (.inr (.inl q))).1 hN'
          · have := hN k hN'; omega
        · omega
      · have := h5 k (.inr (.inr (.inl hk)))
        refine ⟨fun hN' => ?_, by omega⟩
        rcases hN' with hN' | hN'
        · exact this.1 hN'
        · omega
      · have := h5 k (.inr (.inr (.inr hk)))
        refine ⟨fun hN' => ?_, by omega⟩
        rcases hN' with hN' | hN'
        · exact this.1 hN'
        · omega
  · -- a B above all that is there: any lower one serves as well
    have hB2 : w'.heap.size ≤ B := by omega
    have hpl : pl = [] ∨ pl ≠ [] := by by_cases h : pl = []; exact .inl h; exact .inr h
    have hps : Ps w' w'.heap.size v pl := by
      obtain ⟨l, l1, l2, l3⟩ := hp
      refine ⟨l, l1, ?_, fun x hx => own_base (l3 x hx) hB2⟩
      exact own_base l2 hB2
    refine ⟨v, w'.heap.size, hv, hs, Nat.le_refl _, hps, ⟨_, R', S2, R2, Tz.bound g1, h2.ch g4 (fun k hk hX => (h3 k hX).1 hk) (fun k hk hX => (h3 k hX).2 hk), fun k hk => ?_, fun k hk hR => ?_, fun k hk => ?_⟩, hc⟩
    · have := g2 k hk.1
      rcases this.1 with q | q
      · exact h3 k q
      · exact ⟨fun h => by have := (h5 k (.inr (.inr (.inl h)))).2; omega, fun h => by have := (h5 k (.inr (.inr (.inr h)))).2; omega⟩
    · have := g3 k hR
      rcases this.1 with q | q
      · exact h4 k hk q
      · have := (h5 k (.inr (.inr (.inl hk)))).2; omega
    · rcases hk with hk | hk | hk | hk
      · refine ⟨fun hN' => ?_, hk.2⟩
        have := g2 k hk.1
        rcases hN' with hN' | hN'
        · rcases this.1 with q | q
          · exact (h5 k (.inl q)).1 hN'
          · have := hN k hN'; omega
        · omega
      · have hlt := (Tz.rlt g1 k hk).2
        refine ⟨fun hN' => ?_, hlt⟩
        have := g3 k hk
        rcases hN' with hN' | hN'
        · rcases this.1 with q | q
          · exact (h5 k (.inr (.inl q))).1 hN'
          · have := hN k hN'; omega
        · omega
      · have := h5 k (.inr (.inr (.inl hk)))
        refine ⟨fun hN' => ?_, by omega⟩
        rcases hN' with hN' | hN'
        · exact this.1 hN'
        · omega
      · have := h5 k (.inr (.inr (.inr hk)))
        refine ⟨fun hN' => ?_, by omega⟩
        rcases hN' with hN' | hN'
        · exact this.1 hN'
        · omega
end

theorem stB_len {s : St} (h : GoodS s) : (stB s).length ≤ 100000 := by
  have h1 := Bt.flat_le tpB 5600 s.L (fun x hx => by
    have hx' := h.L.fit x hx
    have h2 := (Cm.enc_len x.n.length).1
    have h3 := Bu.tB_len hx'
    have h4 := hx'.n
    simp only [Bu.tpB_eq, List.length_append, Cm.encB_len]
    omega)
  have h5 := Bt.flat_le anB 30 s.last (fun x hx => Bu.anB_len (h.a x hx).1)
  have h6 := h.L.few
  have h7 := h.eight
  have h8 := (Cm.enc_len s.L.length).1
  unfold stB
  simp only [List.length_append]
  omega
set_option maxHeartbeats 2000000 in
theorem tdigest_any (w : World) (S1 S2 R : Nat → Prop) (p t : Nat) (L : List Tx) (s : St) (h : Tb w S1 p L) (hz : Tz w S2 R t s) (hS2 : ∀ k, S2 k → k < w.heap.size) :
    Calls Tryz.prog 19 #[.pointer (some ⟨t, 0, none⟩), .pointer (some ⟨p, 0, none⟩)] w fun e w' => e = .returned (.int .i64 (sum L (stB s) : Int)) ∧ Tb w' (Up S1 w w') p (add L (stB s)) ∧ Ch S1 w w' := by
  have HM := Lib.hid (made_on w S2 R t s hz)
  have HB := Lib.hid (Bu.bytes_all w S2 R t s hz hS2)
  have HL := Lib.hid (stB_len hz.good)
  have HT := Lib.hid h
  clear h hz hS2
  unfold Made at HB
  go_enter Tryz.func19, Tryz.ntmps19
  go_wp2_with fail
  refine HM.out.mono ?_
  rintro e w1 ⟨rfl, rfl⟩
  go_wp2_with fail
  refine HB.out.mono ?_
  rintro e w2 ⟨v2, rfl, ho2, hb2⟩
  obtain ⟨A2, c2, rfl⟩ := own_shape ho2
  have HB2 := Lib.hid hb2
  have HS := Lib.hid (Ib.sum_yes w2 S1 (fun _ => False) p L A2 c2 (stB s) ((Tb.ch HT.out (Ch.of_below (S := fun _ => False) hb2 (Nat.le_refl _)) (fun _ _ h => h))) (Sl.of_own ho2 (fun _ _ _ h => h)) (by have := HL.out; omega))
  unfold Ib.Summed at HS
  clear ho2 hb2
  go_wp2_with fail
  refine HS.out.mono ?_
  rintro e w3 ⟨rfl, ht3, hc3⟩
  have HA : Hid (Tb w3 (Up S1 w w3) p (add L (stB s)) ∧ Ch S1 w w3) := Lib.hid ⟨ht3.weaken (fun k hk => by
    rcases hk with hk | hk
    · exact .inl hk
    · exact .inr ⟨Nat.le_trans HB2.out.size hk.1, hk.2⟩), (Ch.of_below (S := S1) HB2.out (Nat.le_refl _)).trans hc3 (fun _ _ h => h)⟩
  clear ht3 hc3
  go_wp2_with fail
  go_ret
  exact ⟨rfl, HA.out⟩
theorem sum_first (b : Tx) : sum [] b = 1 := by simp [sum, num, Im.add]
theorem add_first (b : Tx) : add [] b = [b] := by simp [add, num]
theorem sum_again (b : Tx) : sum [b] b = 1 := by simp [sum, num, Im.add]
theorem rf_none {w : World} {S : Nat → Prop} {p : Nat} (h : Blk w p 63 #[.slice none 0 0]) (hp : S p) : Rf w S p [] :=
  ⟨_, h, hp, ⟨[], Sl.nil _ _ _, fun i hi => absurd hi (by simp)⟩, (fun l hl => (nomatch hl)), by simp⟩
end Go.Proofs.YtmefagflnhkbdaaGreat.Xh

/-
  Layer 7: TopicsBack, whatever the requests.
-/
namespace Go.Proofs.YtmefagflnhkbdaaGreat.Xi
set_option linter.unusedSimpArgs false
open Go Go.RowKit Ck Kw Ga Kf Pm Pe Pg Py Tm Tn Tq Ik Aa Ab Ac Ad Ae Af Ag Ah Ai Aj Al An Ao Xg Xh
open Im (num isIn add sum)
attribute [local go_sem ↓] Go.wp_at_zero Go.wp_at_succ
set_option linter.unusedVariables false
set_option maxRecDepth 100000

theorem on_bytes {N : Nat → Prop} {p : Nat} {w : World} {s : St} (h : On N w p s) : Calls Tryz.prog 17 #[.pointer (some ⟨p, 0, none⟩)] w fun e w' => Made w 5 (stB s) e w' := by
  obtain ⟨S, R, h1, h2, h3⟩ := h
  exact Bu.bytes_all w S R p s h1 (fun k hk => (h2 k hk).2)
/-- Behind the first list of requests. -/
structure B1 (w : World) (p : Nat) (s : St) (wr : World) : Prop where
  below : Below w.heap.size w wr
  on : On (fun q => q < w.heap.size) wr p s
/-- While both go on. -/
structure B2 (w : World) (p q : Nat) (s : St) (wr : World) : Prop where
  below : Below w.heap.size w wr
  duo : Duo (fun k => k < w.heap.size) wr p q s s
theorem pl_len (t : St) (c k : Int) (o : O) : (appS t c k o).2.1.length ≤ 64 := by
  have key : (doesS t.L o).2.1.length ≤ 64 := by
    unfold doesS
    repeat' split
    all_goals first
      | (simp; done)
      | (simp only [placed_len]; rename_i h _ _ _ _ _; omega)
      | (simp only [placed_len]; omega)
  unfold appS
  by_cases hb : badArg c k = true
  · rw [if_pos hb]; simp
  · rw [if_neg hb]
    simp only
    by_cases h1 : k = (t.last.getD c.toNat An.zero).time
    · rw [if_pos h1]; simp
    · rw [if_neg h1]
      by_cases h2 : k < (t.last.getD c.toNat An.zero).time
      · rw [if_pos h2]; simp
      · rw [if_neg h2]; exact key
set_option maxHeartbeats 8000000 in
theorem back_any (w : World) (A : Option Addr) (c : Nat) (rs : List Rq) (A2 : Option Addr) (c2 : Nat) (ms : List Rq) (hr : Rqs w A rs) (hm : Rqs w A2 ms) (hl : rs.length * 88 ≤ 140737488351232) (hl2 : ms.length * 88 ≤ 140737488351232) :
    Calls Tryz.prog 5 #[.slice A rs.length c, .slice A2 ms.length c2] w fun e w' => e = .returned (.bool true) ∧ Below w.heap.size w w' := by
  have HRQ := Lib.hid hr
  have HMQ := Lib.hid hm
  clear hr hm
  go_enter Tryz.func5, Tryz.ntmps5
  go_wp2_with fail
  refine (live_any w).mono ?_
  rintro e w1 ⟨rfl, hb1⟩
  have HB1 := Lib.hid hb1
  clear hb1
  go_wp2_with fail
  refine (new_any w1).mono ?_
  rintro e w2 ⟨p, rfl, hz2, hb2⟩
  have HST : Hid (B1 w p St.zero w2) := Lib.hid ⟨HB1.out.trans (hb2.mono HB1.out.size), (on_new hz2).weaken (N' := fun k => k < w.heap.size) (fun k hk => by have := HB1.out.size; omega)⟩
  clear hz2 hb2 HB1
  go_wp2_with fail
  go_loopw [26] (fun i wr => ∃ (k : Nat) (s : St), k ≤ rs.length ∧ i = .int .i64 k ∧ B1 w p s wr) (fun i _ => rs.length - (intOf i).toNat)
  case atStart => exact ⟨0, _, Nat.zero_le _, rfl, HST.out⟩
  case round =>
    obtain ⟨k, s, hk, rfl, hso⟩ := hrel
    clear HST
    have HSO := Lib.hid hso
    clear hso
    by_cases hlt : k < rs.length
    · obtain ⟨ad, Ar, cr, rfl, a0, a1, a2, a3, a4, a5, a6, hls, ht1, ht2⟩ := HRQ.out.at_ HSO.out.below hlt
      generalize rs[k] = r at *
      have hba := op_below wr (.cells (RC r.client r.time r.o Ar cr) 40)
      have hra : Blk (wr.alloc (.cells (RC r.client r.time r.o Ar cr) 40)) wr.heap.size 40 (RC r.client r.time r.o Ar cr) := Blk.new wr _ _
      have HLS := Lib.hid (hls.after hba)
      have hsz := HSO.out.below.size
      have hzz := hba.size
      have hon := HSO.out.on.skip hba
      have hN : ∀ q, (q < w.heap.size ∨ (wr.heap.size ≤ q ∧ q < (wr.alloc (.cells (RC r.client r.time r.o Ar cr) 40)).heap.size)) → q < (wr.alloc (.cells (RC r.client r.time r.o Ar cr) 40)).heap.size := fun q hq => by
        rcases hq with hq | hq <;> omega
      have HAP := Lib.hid (hon.asked (s' := (appS s r.client r.time r.o).2.2.2) (k := (appS s r.client r.time r.o).1.1) (off := (appS s r.client r.time r.o).1.2) (b := (appS s r.client r.time r.o).2.2.1) (pl := (appS s r.client r.time r.o).2.1) hN (HLS.out) ht2 rfl)
      have HBA := Lib.hid (And.intro hba hra)
      clear hls ht1 ht2 hba hra hon hN
      unfold RV at HAP
      unfold RC at HAP HLS HBA hzz
      go_wp2_with fail
      generalize wr.alloc (.cells #[.int .i64 r.client, .int .i64 r.time, .int .i64 r.o.kind, .string ⟨r.o.topic.toArray⟩, .string ⟨r.o.group.toArray⟩, .int .i64 r.o.off, .slice Ar r.o.recs.length cr] 40) = wa at *
      clear a0 a1 a2 a3 a4 a5 a6
      refine HAP.out.mono ?_
      rintro e w4 ⟨v, B, rfl, hB, hp, ho, hc⟩
      have HS4 : Hid (B1 w p (appS s r.client r.time r.o).2.2.2 w4) := Lib.hid ⟨(HSO.out.below.trans (HBA.out.1.mono hsz)).trans (hc.below (B := w.heap.size) (fun q hq h => h.1 (.inl hq)) (by omega)), ho.weaken (fun q hq => .inl (.inl hq))⟩
      clear hB hp ho hc HAP HLS
      generalize (appS s r.client r.time r.o).2.2.2 = s4 at *
      generalize (appS s r.client r.time r.o).2.2.1 = b4 at *
      generalize (appS s r.client r.time r.o).1.1 = k4 at *
      generalize (appS s r.client r.time r.o).1.2 = o4 at *
      go_wp2_with fail
      go_roundw
      case rel => exact ⟨k + 1, _, by omega, by go_num, HS4.out⟩
      case measure => simp [intOf]; omega
    · generalize wr = wo at *
      go_wp2_with fail
      --CUT1
      refine (on_bytes HSO.out.on).mono ?_
      rintro e w5 ⟨v5, rfl, ho5, hb5⟩
      obtain ⟨A5, c5, rfl⟩ := own_shape ho5
      have hg := HSO.out.on.good
      have hlen := stB_len hg
      have HBK := Lib.hid (back hg)
      have HL5 := Lib.hid hlen
      have hon5 := HSO.out.on.skip hb5
      have hbw5 := HSO.out.below.trans (hb5.mono HSO.out.below.size)
      have hsl5 : Sl w5 (fun k => k < wo.heap.size) 1 (.slice A5 (stB s).length c5) (stB s).length (BVs (stB s)) := Sl.of_own ho5 (fun k h1 h2 h3 => by omega)
      have HPA := Lib.hid (tparse_any w5 _ _ _ _ hsl5 (by omega))
      have HO5 := Lib.hid (And.intro hon5 (And.intro hbw5 (And.intro hsl5 hb5)))
      clear ho5 hb5 hg hlen hon5 hbw5 hsl5
      unfold ParsedT at HPA
      go_wp2_with fail
      refine HPA.out.mono ?_
      rintro e w6 ⟨hb6, ⟨hno, -⟩ | ⟨t, q, S, R, hst, rfl, hz6, hS6, hR6⟩⟩
      · rw [HBK.out] at hno; cases hno
      rw [HBK.out] at hst
      obtain rfl := Option.some.inj hst
      have hduo := Duo.start HO5.out.1 hb6 hz6 hS6 hR6
      have hw5 := HO5.out.2.1.size
      have hw45 := HO5.out.2.2.2.size
      have HB6 : Hid (Below w.heap.size w w6) := Lib.hid (HO5.out.2.1.trans (hb6.mono hw5))
      have HD6 : Hid (Duo (fun k => k < w.heap.size ∨ w6.heap.size ≤ k) w6 p q s s) := Lib.hid (hduo.weaken (fun k hk => by
        rcases hk with hk | hk
        · exact .inl ⟨.inl hk, by omega⟩
        · exact .inr hk))
      have hsl6 := HO5.out.2.2.1.after hb6
      have HSL6 : Hid (Sl w6 (fun k => w6.heap.size ≤ k) 1 (.slice A5 (stB s).length c5) (stB s).length (BVs (stB s))) := Lib.hid (hsl6.old' (Nat.le_refl _))
      clear hst hb6 hz6 hS6 hR6 hduo hsl6 HPA HO5 hw5 hw45
      go_wp2_with fail
      --CUT2
      refine (Ib.newtable_any w6).mono ?_
      rintro e w7 ⟨x, rfl, ht7, hb7⟩
      have hd7 := HD6.out.later hb7
      have hs7 := hb7.size
      obtain ⟨S, R, hz7, hS7⟩ := hd7.one
      have HDG := Lib.hid (tdigest_any w7 _ _ _ x p [] s ht7 hz7 hS7)
      rw [sum_first, add_first] at HDG
      have HD7 := Lib.hid hd7
      have HB7 := Lib.hid hb7
      clear ht7 hd7 hz7 hS7 hb7
      go_wp2_with fail
      refine HDG.out.mono ?_
      rintro e w8 ⟨rfl, ht8, hc8⟩
      have hd8 := HD7.out.ch hc8 (fun k hk => .inl (.inr hk.1))
      have hs8 := hc8.size
      have HC8 : Hid (Ch (fun k => w6.heap.size ≤ k) w6 w8) := Lib.hid ((Ch.of_below (S := fun k => w6.heap.size ≤ k) HB7.out (Nat.le_refl _)).trans hc8 (fun k _ hk => hk.1))
      have htn : Tb w8 (fun k => w6.heap.size ≤ k) x [stB s] := ht8.weaken (fun k hk => by
        rcases hk with hk | hk
        · exact hk.1
        · omega)
      obtain ⟨S', R', hz8, hS8⟩ := hd8.swap.one
      have HDG2 := Lib.hid (tdigest_any w8 _ _ _ x q [stB s] s htn hz8 hS8)
      rw [sum_again] at HDG2
      have HD8 := Lib.hid hd8
      clear ht8 hc8 hd8 htn hz8 hS8 HDG
      go_wp2_with fail
      --CUT3
      refine HDG2.out.mono ?_
      rintro e w9 ⟨rfl, -, hc9⟩
      have hd9 := HD8.out.ch hc9 (fun k hk => .inl (.inr hk))
      have hs9 := hc9.size
      have hc69 : Ch (fun k => w6.heap.size ≤ k) w6 w9 := HC8.out.trans hc9 (fun k _ hk => hk)
      have hb10 := op_below w9 (.cells #[.slice none 0 0] 63)
      have hrf : Rf (w9.alloc (.cells #[.slice none 0 0] 63)) (fun k => w9.heap.size ≤ k) w9.heap.size [] := rf_none (Blk.new w9 _ _) (Nat.le_refl _)
      have hc610 : Ch (fun k => w6.heap.size ≤ k) w6 (w9.alloc (.cells #[.slice none 0 0] 63)) := hc69.trans (Ch.of_below (S := fun _ => False) hb10 (Nat.le_refl _)) (fun _ _ h => h.elim)
      have HSUM := Lib.hid (Ij.rsum_any _ _ (fun k => w6.heap.size ≤ k) w9.heap.size [] A5 c5 (stB s) hrf (HSL6.out.ch hc610 (fun k _ hk => hk)) (by have := HL5.out; omega))
      unfold Ij.RSummed at HSUM
      rw [sum_first] at HSUM
      have HD10 := Lib.hid (hd9.later hb10)
      have HC10 := Lib.hid hc610
      clear hd9 hc69 hb10 hrf hc610 hc9 HDG2 HD8 HC8
      go_wp2_with fail
      --CUT4
      refine HSUM.out.mono ?_
      rintro e w11 ⟨rfl, -, hc11⟩
      have hs11 := hc11.size
      have hs10 := HC10.out.size
      have HB2 : Hid (B2 w p q s w11) := Lib.hid ⟨HB6.out.trans ((HC10.out.trans hc11 (fun k _ hk => by have := HC10.out.size; have : w9.heap.size ≤ k := hk; omega)).below (B := w.heap.size) (fun k h1 h2 => by have := HB6.out.size; omega) HB6.out.size), (HD10.out.ch hc11 (fun k hk => .inl (.inr (by have : w9.heap.size ≤ k := hk; omega)))).weaken (fun k hk => .inl (.inl hk))⟩
      clear hc11 HSUM HD10 HC10 HD6 HSL6
      go_wp2_with fail
      --CUT5
      go_loopw [66] (fun i wr => ∃ (k : Nat) (s : St), k ≤ ms.length ∧ i = .int .i64 k ∧ B2 w p q s wr) (fun i _ => ms.length - (intOf i).toNat)
      case atStart => exact ⟨0, _, Nat.zero_le _, rfl, HB2.out⟩
      case round =>
        obtain ⟨k, t, hk, rfl, hso⟩ := hrel
        have HSO2 := Lib.hid hso
        clear hso HB2
        by_cases hlt : k < ms.length
        · obtain ⟨ad, Ar, cr, rfl, a0, a1, a2, a3, a4, a5, a6, hls, ht1, ht2⟩ := HMQ.out.at_ HSO2.out.below hlt
          generalize ms[k] = r at *
          have hba := op_below wr (.cells (RC r.client r.time r.o Ar cr) 40)
          have hra : Blk (wr.alloc (.cells (RC r.client r.time r.o Ar cr) 40)) wr.heap.size 40 (RC r.client r.time r.o Ar cr) := Blk.new wr _ _
          have hls1 := hls.after hba
          have hsz := HSO2.out.below.size
          have hzz := hba.size
          have hra' := hra.lt
          have hd1 : Duo (fun k => k < w.heap.size ∨ k = wr.heap.size) (wr.alloc (.cells (RC r.client r.time r.o Ar cr) 40)) p q t t := (HSO2.out.duo.skip hba).weaken (fun k hk => by
            rcases hk with hk | hk
            · exact .inl (.inl hk)
            · exact .inl (.inr (by omega)))
          have HPL : Hid ((appS t r.client r.time r.o).2.1.length ≤ 64) := Lib.hid (pl_len t r.client r.time r.o)
          generalize happ : appS t r.client r.time r.o = ap at *
          obtain ⟨⟨ae, af⟩, pl, ab, t'⟩ := ap
          simp only at HPL
          have HAP := Lib.hid (hd1.ask (fun k hk => by rcases hk with hk | hk <;> omega) hls1 ht2 happ)
          have HLS := Lib.hid (And.intro hls1 (And.intro ht2 happ))
          have HBA := Lib.hid (And.intro hba hra)
          clear hls hls1 ht1 ht2 hba hra hd1 happ
          unfold RV at HAP
          unfold RC at HAP HLS HBA hzz hra'
          go_wp2_with fail
          generalize wr.alloc (.cells #[.int .i64 r.client, .int .i64 r.time, .int .i64 r.o.kind, .string ⟨r.o.topic.toArray⟩, .string ⟨r.o.group.toArray⟩, .int .i64 r.o.off, .slice Ar r.o.recs.length cr] 40) = wa at *
          clear a0 a1 a2 a3 a4 a5 a6
          --CUT6
          refine HAP.out.mono ?_
          rintro e w4 ⟨v, B, rfl, hB, hB4, hp, ho, hc⟩
          obtain ⟨Av, cv, rfl⟩ : ∃ Av cv, v = .slice Av pl.length cv := by
            obtain ⟨l', h1, h2, h3⟩ := hp
            exact own_shape h2
          have hs4 := hc.size
          have hreq4 := HBA.out.2.ch hc (fun h => h.1 (.inr rfl))
          have hb5 := op_below w4 (.cells #[.int .i64 ae, .int .i64 af] 30)
          have hres5 : Blk (w4.alloc (.cells #[.int .i64 ae, .int .i64 af] 30)) w4.heap.size 30 #[.int .i64 ae, .int .i64 af] := Blk.new w4 _ _
          have hreq5 := hreq4.below hb5 hreq4.lt
          have hbw5 : Below w.heap.size w (w4.alloc (.cells #[.int .i64 ae, .int .i64 af] 30)) := ((HSO2.out.below.trans (HBA.out.1.mono hsz)).trans (hc.below (B := w.heap.size) (fun k hk h => h.1 (.inl hk)) (by omega))).trans (hb5.mono (by omega))
          have hps5 := hp.later hb5
          have hs5 := hb5.size
          have hres5' := hres5.lt
          have hls5 := ((HLS.out.1.ch hc (fun k hk hX => (hX : ¬ (k < w.heap.size ∨ k = wr.heap.size) ∧ k < wa.heap.size).1 |> fun _ => by
            have h1 : ¬ (k < w.heap.size ∨ k = wr.heap.size) ∧ k < wa.heap.size := hX
            have := HSO2.out.below.size
            omega))).after hb5
          have hd5 : Duo (fun k => k < w.heap.size ∨ k = wr.heap.size ∨ (B ≤ k ∧ k < (w4.alloc (.cells #[.int .i64 ae, .int .i64 af] 30)).heap.size)) (w4.alloc (.cells #[.int .i64 ae, .int .i64 af] 30)) q p t t' := ((ho.skip hb5).weaken (fun k hk => by
            rcases hk with hk | hk | hk
            · exact .inl (.inl (.inl (.inl hk)))
            · exact .inl (.inl (.inl (.inr hk)))
            · exact .inl (.inl (.inr hk.1)))).swap
          have HAP2 := Lib.hid (hd5.ask (fun k hk => by rcases hk with hk | hk | hk <;> omega) hls5 HLS.out.2.1 HLS.out.2.2)
          have HX5 := Lib.hid (And.intro hreq5 (And.intro hres5 (And.intro hbw5 hps5)))
          have b0 := hreq5.cell 0
          have b1 := hreq5.cell 1
          have b2 := hreq5.cell 2
          have b3 := hreq5.cell 3
          have b4 := hreq5.cell 4
          have b5 := hreq5.cell 5
          have b6 := hreq5.cell 6
          simp only [List.getElem?_toArray, List.getElem?_cons_zero, List.getElem?_cons_succ] at b0 b1 b2 b3 b4 b5 b6
          clear hB hp ho hc HAP hreq4 hb5 hres5 hreq5 hbw5 hps5 hls5 hd5
          unfold RV RC at HAP2
          go_wp2_with fail
          clear b0 b1 b2 b3 b4 b5 b6
          generalize w4.alloc (.cells #[.int .i64 ae, .int .i64 af] 30) = w5 at *
          --CUT7
          refine HAP2.out.mono ?_
          rintro e w6 ⟨v2, C, rfl, hC, hC6, hp2, ho2, hc2⟩
          obtain ⟨Av2, cv2, rfl⟩ : ∃ Av2 cv2, v2 = .slice Av2 pl.length cv2 := by
            obtain ⟨l', h1, h2, h3⟩ := hp2
            exact own_shape h2
          have hs6 := hc2.size
          have hps6 : Ps w6 B (.slice Av pl.length cv) pl := HX5.out.2.2.2.ch hc2 (fun k h => by
            have h1 : ¬ (k < w.heap.size ∨ k = wr.heap.size ∨ (B ≤ k ∧ k < w5.heap.size)) ∧ k < w5.heap.size := h
            omega)
          have hres6 : Blk w6 w4.heap.size 30 #[.int .i64 ae, .int .i64 af] := HX5.out.2.1.ch hc2 (fun h => h.1 (.inr (.inr ⟨hB4, hres5'⟩)))
          have hb7 := op_below w6 (.cells #[.int .i64 ae, .int .i64 af] 30)
          have hk7 : Blk (w6.alloc (.cells #[.int .i64 ae, .int .i64 af] 30)) w6.heap.size 30 #[.int .i64 ae, .int .i64 af] := Blk.new w6 _ _
          have hres7 := hres6.below hb7 hres6.lt
          have r0 := hres7.cell 0
          have r1 := hres7.cell 1
          have u0 := hk7.cell 0
          have u1 := hk7.cell 1
          simp only [List.getElem?_toArray, List.getElem?_cons_zero, List.getElem?_cons_succ] at r0 r1 u0 u1
          have hq : ∀ W : World, (binOp .neq 30 (.agg #[.int .i64 ae, .int .i64 af]) (.agg #[.int .i64 ae, .int .i64 af])).run Tryz.prog W = .ok (.bool false) W := fun W => by rw [Xa.run_neq_rs, Xa.rsB, decide_eq_true rfl]; rfl
          have HSP := Lib.hid (samep_any _ _ _ _ _ _ _ pl (hps6.later hb7) (hp2.later hb7) (by obtain ⟨l', h1, h2, h3⟩ := hp2; have := h2.1; have := HPL.out; omega))
          have hd7 := (ho2.weaken (N' := fun k => k < w.heap.size) (fun k hk => .inl (.inl (.inl hk)))).swap.later hb7
          have HD7' := Lib.hid hd7
          have HBW7 : Hid (Below w.heap.size w (w6.alloc (.cells #[.int .i64 ae, .int .i64 af] 30))) := Lib.hid ((HX5.out.2.2.1.trans (hc2.below (B := w.heap.size) (fun k hk h => h.1 (.inl hk)) (by have := HX5.out.2.2.1.size; omega))).trans (hb7.mono (by have := HX5.out.2.2.1.size; omega)))
          have hbeq : ∀ b : Bool, (b != b) = false := fun b => by cases b <;> rfl
          have hab := hbeq ab
          clear hps6 hres6 hb7 hk7 hres7 hp2 ho2 hc2 hd7 hC hC6 hbeq
          go_wp2_with fail
          --CUT8
          generalize w6.alloc (.cells #[.int .i64 ae, .int .i64 af] 30) = w7 at *
          clear r0 r1 u0 u1
          refine HSP.out.mono ?_
          rintro e w8 ⟨rfl, hb8⟩
          have HS8 : Hid (B2 w p q t' w8) := Lib.hid ⟨HBW7.out.trans (hb8.mono HBW7.out.size), HD7'.out.later hb8⟩
          clear hb8
          go_wp2_with fail
          go_roundw
          case rel => exact ⟨k + 1, _, by omega, by go_num, HS8.out⟩
          case measure => simp [intOf]; omega
        · generalize wr = wq at *
          go_wp2_with fail
          refine (HSO2.out.duo.bytes).mono ?_
          rintro e w12 ⟨vw, rfl, how, hb12⟩
          obtain ⟨Aw, cw, rfl⟩ := own_shape how
          have hd12 := HSO2.out.duo.later hb12
          have HOW := Lib.hid (And.intro how hb12)
          have HD12 := Lib.hid hd12
          clear how hb12 hd12
          go_wp2_with fail
          refine (HD12.out.swap.bytes).mono ?_
          rintro e w13 ⟨vb, rfl, hob, hb13⟩
          obtain ⟨Ab, cb, rfl⟩ := own_shape hob
          have HOB := Lib.hid (And.intro hob hb13)
          clear hob hb13
          go_wp2_with fail
          refine (Ga.equal_any w13 (fun _ => False) (fun _ => False) _ _ _ _ (stB t) (stB t) (Sl.of_own (own_below HOW.out.1 HOB.out.2) (fun _ _ _ h => h)) (Sl.of_own HOB.out.1 (fun _ _ _ h => h))).mono ?_
          rintro e w14 ⟨rfl, rfl⟩
          rw [beq_self_eq_true]
          go_wp2_with fail
          go_ret
          exact ⟨rfl, HSO2.out.below.trans ((HOW.out.2.mono HSO2.out.below.size).trans (HOB.out.2.mono (by have := HSO2.out.below.size; have := HOW.out.2.size; omega)))⟩
end Go.Proofs.YtmefagflnhkbdaaGreat.Xi
