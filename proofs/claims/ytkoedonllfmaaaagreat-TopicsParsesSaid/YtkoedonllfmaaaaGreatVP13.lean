/-
  Layer 6 (op): the contracts of parts and records (a row of their own, the parts shared), of slices.Clone at records, of EqualFunc and Same.
-/
import Derived.Test.YtkoedonllfmaaaaGreatVP07
import Derived.Test.YtkoedonllfmaaaaGreatVPCi
import Derived.Test.YtkoedonllfmaaaaGreatVP04
import Derived.RegionTactic
import Derived.Lib.ConvBytes
import Derived.Test.YtkoedonllfmaaaaGreatVP10
import Derived.Test.YtkoedonllfmaaaaGreatVP11
namespace Go.Proofs.YtkoedonllfmaaaaGreat.Ppi
set_option linter.unusedSimpArgs false
open Go Go.RowKit Ck Kw Ca Cb Ci Pm Pa Pe Pf Pg
set_option linter.unusedVariables false

theorem info_rec : (Tryz.prog.info? 55).map (fun i => (i.zero, i.size, i.bytes)) = some (some (.slice none 0 0), 1, 24) := by kernel_rfl

set_option maxHeartbeats 1000000 in
theorem rclone_any (w : World) (X : Nat → Prop) (A : Option Addr) (c : Nat) (ls : List Tx) (hls : Ls w X (.slice A ls.length c) ls) (hl : ls.length * 24 ≤ 140737488355328) :
    Calls Tryz.prog 66 #[.slice A ls.length c] w fun e w' => ∃ v vals, e = .returned v ∧ w'.ownsRow w.heap.size 55 1 v ls.length vals ∧ (∀ i (hi : i < ls.length), ∃ u, vals[i]? = some u ∧ Sl w X 1 u ls[i].length (BVs ls[i])) ∧ Below w.heap.size w w' := by
  obtain ⟨vals, h1, h2⟩ := hls
  have HE := Lib.hid h2
  have hvl : vals.length = ls.length := by obtain ⟨_, _, _, h, _⟩ := h1; omega
  have H1 : ∀ u ∈ vals, u.oneCell' = true := by
    intro u hu
    obtain ⟨i, hi, rfl⟩ := List.getElem_of_mem hu
    obtain ⟨u', hu', h3⟩ := h2 i (by omega)
    obtain ⟨B, d, rfl, -⟩ := h3
    rw [List.getElem?_eq_getElem hi] at hu'
    rw [Option.some.inj hu']
    rfl
  have HONE := Lib.hid H1
  have HVL := Lib.hid hvl
  obtain ⟨i0, hi0, hz0, hz1, hz2⟩ := info_parts info_rec
  have heq := fun (W : World) => Lib.run_eql_slice_nil (P := Tryz.prog) W 36 55 A ls.length c 0 0 Tryz.underlying36
  clear h2 H1 hvl
  rcases A with _ | ad
  · obtain ⟨h0, hv0⟩ := h1.none_
    have hb : ls = [] := List.eq_nil_of_length_eq_zero h0
    subst hb
    simp only [List.length_nil] at heq
    clear h1 h0 hv0
    go_enter Tryz.func66, Tryz.ntmps66
    go_wp2
    go_ret
    exact ⟨_, [], rfl, World.ownsRow_nil _ _ _ _, fun i hi => absurd hi (by simp), Below.refl _ _⟩
  · go_enter Tryz.func66, Tryz.ntmps66
    go_wp2_with (at_builtin; refine wpList_append_sl _ rfl (.tmp 5) (.tmp 6) _ rfl w.heap.size 55 i0 _ 1 24 Tryz.underlying36 hi0 hz0 hz1 hz2 rfl (by omega) (.slice (some ⟨w.heap.size, 0, none⟩) 0 0) 0 [] rfl (World.ownsRow_made w #[] 0 (Nat.le_refl _) (by simp only [maxLen]; omega) rfl) X _ ls.length vals rfl (h1.alloc _) HONE.out (by simp only [maxLen]; omega) (by omega) (by simp) ?_; intro v2 w2 happ)
    go_ret
    refine ⟨v2, vals, rfl, by simpa using happ.1, HE.out, ?_⟩
    exact ((Below.refl _ _).alloc (Nat.le_refl _) _).grown happ.2.1 (by simp) (by simp [Value.ownBlock])

end Go.Proofs.YtkoedonllfmaaaaGreat.Ppi

/-
  Bytes made out of a text, for any layer.
-/
namespace Go.Proofs.YtkoedonllfmaaaaGreat.Kx
set_option linter.unusedSimpArgs false
set_option linter.unusedVariables false
open Go Go.RowKit Ck Kw Ga
/-- v is new bytes, made out of a text. -/
def Out (w : World) (base : Nat) (v : Value) (l : List UInt8) : Prop :=
  ∃ (g cap : Nat) (cs : Array Value) (z : Nat), v = .slice (some ⟨g, 0, none⟩) l.length cap ∧ base ≤ g ∧ w.heap[g]? = some (.cells cs 5 (z, z + 1)) ∧ l.length ≤ z ∧ l.length ≤ cap ∧ cap ≤ maxLen ∧ ∀ (j : Nat) (u : Value), (BVs l)[j]? = some u → cs[j]? = some u
theorem Out.sl {w : World} {base : Nat} {v : Value} {l : List UInt8} {X : Nat → Prop} (h : Out w base v l) (hX : ∀ k, base ≤ k → k < w.heap.size → ¬ X k) : Sl w X 1 v l.length (BVs l) := by
  obtain ⟨g, cap, cs, z, rfl, hb, hg, hz, hc, hm, hx⟩ := h
  have hlt := (Array.getElem?_eq_some_iff.1 hg).1
  refine ⟨_, _, rfl, by simp [BVs_len], hc, hm, fun _ => ⟨_, rfl, hlt, hX g hb hlt, fun j u hu => ?_⟩⟩
  have ha : (⟨g, 0, none⟩ : Addr).add j = ⟨g, j, none⟩ := by unfold Addr.add; split <;> simp_all
  rw [ha]
  simp only [World.cell?, hg]
  exact hx j u hu
theorem Out.ch {w w' : World} {base : Nat} {v : Value} {l : List UInt8} {S : Nat → Prop} (h : Out w base v l) (c : Ch S w w') (hS : ∀ k, base ≤ k → k < w.heap.size → ¬ S k) : Out w' base v l := by
  obtain ⟨g, cap, cs, z, rfl, hb, hg, r⟩ := h
  exact ⟨g, cap, cs, z, rfl, hb, (c.block g (Array.getElem?_eq_some_iff.1 hg).1 (hS g hb (Array.getElem?_eq_some_iff.1 hg).1)).trans hg, r⟩
theorem Out.base {w : World} {base b' : Nat} {v : Value} {l : List UInt8} (h : Out w base v l) (hb : b' ≤ base) : Out w b' v l := by
  obtain ⟨g, cap, cs, z, hv, h1, r⟩ := h
  exact ⟨g, cap, cs, z, hv, Nat.le_trans hb h1, r⟩
theorem bytesWorld_below (w : World) (e : TypeId) (s : ByteArray) : Below w.heap.size w (Lib.bytesWorld w e s) := by
  refine ⟨?_, ?_, ?_, by rw [Lib.bytesWorld_size]; omega, fun k hk => Lib.bytesWorld_at_old w e s k hk⟩ <;>
    (unfold Lib.bytesWorld World.freeze; split <;> rfl)
theorem bytesWorld_out (w : World) (l : List UInt8) (hl : l.length ≤ 140737488355328) : Out (Lib.bytesWorld w 5 ⟨l.toArray⟩) w.heap.size (.slice (some ⟨w.heap.size, 0, none⟩) l.length (grownCap w l.length 0 5)) l := by
  have hge := grownCap_ge w l.length 0 5
  refine ⟨w.heap.size, _, _, _, rfl, Nat.le_refl _, Lib.bytesWorld_at_new w 5 ⟨l.toArray⟩, ?_, hge, grownCap_le_maxLen w _ _ _ (by simp only [maxLen]; omega), fun j u hu => ?_⟩
  · show l.length ≤ ((l.toArray.map fun b : UInt8 => Value.int .u8 b.toNat) ++ Array.replicate _ _).size
    simp
  · have hj : j < l.length := by have := (List.getElem?_eq_some_iff.1 hu).1; rwa [BVs_len] at this
    show ((l.toArray.map fun b : UInt8 => Value.int .u8 b.toNat) ++ Array.replicate _ _)[j]? = some u
    rw [Array.getElem?_append_left (by simpa using hj)]
    rw [BVs_get hj] at hu
    simpa [hj] using hu
theorem conv_bytes (l : List UInt8) (W : World) : (convert 9 49 (.string ⟨l.toArray⟩)).run Tryz.prog W = .ok (.slice (some ⟨W.heap.size, 0, none⟩) l.length (grownCap W l.length 0 5)) (Lib.bytesWorld W 5 ⟨l.toArray⟩) := by
  have := Lib.run_convert_string_bytes (P := Tryz.prog) W 9 49 5 ⟨l.toArray⟩ Tryz.underlying9 Tryz.underlying49 Tryz.underlying5
  have hs : (⟨l.toArray⟩ : ByteArray).size = l.length := by show l.toArray.size = _; simp
  rw [hs] at this
  exact this

end Go.Proofs.YtkoedonllfmaaaaGreat.Kx

/-
  Layer 6 (op): how long names and operations' bytes are; the contract of Bytes, kind by kind.
-/
namespace Go.Proofs.YtkoedonllfmaaaaGreat.Pk
set_option linter.unusedSimpArgs false
open Go Go.RowKit Ck Kw Ca Cb Ci Pm Pa Pe Pf Pg Ph Ppi Kx
set_option linter.unusedVariables false

theorem dec_width4 (l : Tx) : (dec l).2 ≤ 4 := by
  unfold dec Go.Lib.decodeN
  repeat' split
  all_goals simp
theorem rn_len : ∀ (j : Nat) (l : Tx), rn j l ≠ 0 → l.length ≤ 4 * j
  | 0, l, h => by
    unfold rn at h
    split at h
    · rename_i hl; subst hl; simp
    · exact absurd rfl h
  | j + 1, l, h => by
    unfold rn at h
    split at h
    · rename_i hl; subst hl; simp
    · split at h
      · exact absurd rfl h
      · have h1 := rn_len j _ h
        have h2 := dec_width4 l
        rw [List.length_drop] at h1
        omega
theorem name_len {l : Tx} (h : name l = true) : l.length ≤ 64 ∧ l ≠ [] := by
  have h1 : 0 < runes l := of_decide_eq_true h
  refine ⟨rn_len 16 l (by unfold runes at h1; omega), fun e => ?_⟩
  subst e
  exact absurd h1 (by decide)
theorem recs_len {l : List Tx} (h : areRecs l = true) : 1 ≤ l.length ∧ l.length ≤ 4 ∧ ∀ x ∈ l, x.length ≤ 64 := by
  simp only [areRecs, Bool.and_eq_true, decide_eq_true_eq, List.all_eq_true] at h
  exact ⟨h.1.1, h.1.2, h.2⟩
theorem encP_small : ∀ (l : List Tx), (∀ x ∈ l, x.length ≤ 64) → (Cm.encP l).length ≤ 74 * l.length
  | [], _ => by simp [Cm.encP]
  | x :: l, h => by
    have h1 := encP_small l (fun y hy => h y (List.mem_cons_of_mem _ hy))
    have h2 := h x List.mem_cons_self
    have h3 := Cm.enc_len x.length
    simp only [Cm.encP, List.length_append, Cm.encB_len, List.length_cons]
    omega
/-- What an operation that may be holds. -/
theorem check_lens {o : O} (h : check o = 0) : (hasT o.kind = true → o.topic.length ≤ 64) ∧ (hasG o.kind = true → o.group.length ≤ 64) ∧ (hasO o.kind = true → 0 ≤ o.off ∧ o.off ≤ 9007199254740992) ∧
    (hasR o.kind = true → 1 ≤ o.recs.length ∧ o.recs.length ≤ 4 ∧ (∀ x ∈ o.recs, x.length ≤ 64) ∧ (Cm.encP o.recs).length ≤ 296) := by
  obtain ⟨h1, h2, h3, h4, h5⟩ := check_ok h
  refine ⟨fun hT => ?_, fun hG => ?_, fun hO => ?_, fun hR => ?_⟩
  · refine (name_len (l := o.topic) ?_).1
    cases hn : name o.topic with
    | true => rfl
    | false => simp [badName, hT, hn] at h3
  · refine (name_len (l := o.group) ?_).1
    cases hn : name o.group with
    | true => rfl
    | false => simp [badName, hG, hn] at h3
  · simp only [badOff, hO, Bool.true_and, Bool.or_eq_false_iff, decide_eq_false_iff_not] at h5
    omega
  · have hr : areRecs o.recs = true := by
      cases hn : areRecs o.recs with
      | true => rfl
      | false => simp [badRecs, hR, hn] at h4
    obtain ⟨a, b, c⟩ := recs_len hr
    have := encP_small o.recs c
    exact ⟨a, b, c, by omega⟩
theorem wrap_u64' (z : Nat) (h : z < 18446744073709551616) : IntKind.u64.wrap (z : Int) = (z : Int) := by
  simp [IntKind.wrap, IntKind.bits, IntKind.signed]
  omega
/-- The operation and its kind's fields stand there, and a row of the call's own. -/
structure BK (w0 : World) (g1 g3 : Nat) (o : O) (A : Option Addr) (c : Nat) (v : Value) (l : Tx) (W : World) : Prop where
  ck : CK w0 g1 g3 o A c W
  row : W.ownsRow w0.heap.size 5 1 v l.length (BVs l)
theorem BK.put {w0 W W1 W2 : World} {g1 g3 : Nat} {o : O} {A : Option Addr} {c : Nat} {v v' : Value} {l l' : Tx} (h : BK w0 g1 g3 o A c v l W) (b1 : Below W.heap.size W W1) (hown : W2.ownsRow W1.heap.size 5 1 v' l'.length (BVs l')) (b2 : Below W1.heap.size W1 W2) : BK w0 g1 g3 o A c v' l' W2 := by
  have b : Below W.heap.size W W2 := b1.trans (b2.mono b1.size)
  exact ⟨h.ck.later b, own_base hown (Nat.le_trans h.ck.below.size b1.size)⟩
end Go.Proofs.YtkoedonllfmaaaaGreat.Pk

/-
  Layer 6 (op): there and back, in the plain mathematics: what is put is read, what is read has those bytes, no operation's bytes begin another one's; the document's loop over records reads what a list's reading does.
-/
namespace Go.Proofs.YtkoedonllfmaaaaGreat.Pp
set_option linter.unusedSimpArgs false
open Cm Pm Pk
set_option linter.unusedVariables false

theorem numS_err {s : RS} {m : Nat} (h : s.2 ≠ 0) : numS s m = (0, s) := by rw [numS, if_pos h]
theorem takeS_err {s : RS} {n : Int} (h : s.2 ≠ 0) : takeS s n = ([], s) := by rw [takeS, if_pos h]
theorem bytesS_err {s : RS} {m : Int} (h : s.2 ≠ 0) : bytesS s m = ([], s) := by
  rw [bytesS, numS_err h]
  exact takeS_err h
theorem listS_err {s : RS} {m k : Int} (h : s.2 ≠ 0) : listS s m k = ([], s) := by
  rw [listS, numS_err h]
  rfl
theorem rdT_err {s : RS} {k : Int} (h : s.2 ≠ 0) : rdT k s = ([], s) := by
  unfold rdT; split
  · exact bytesS_err h
  · rfl
theorem rdG_err {s : RS} {k : Int} (h : s.2 ≠ 0) : rdG k s = ([], s) := by
  unfold rdG; split
  · exact bytesS_err h
  · rfl
theorem rdO_err {s : RS} {k : Int} (h : s.2 ≠ 0) : rdO k s = (0, s) := by
  unfold rdO; split
  · exact numS_err h
  · rfl
theorem rdR_err {s : RS} {k : Int} (h : s.2 ≠ 0) : rdR k s = ([], s) := by
  unfold rdR; split
  · exact listS_err h
  · rfl
/-- What is read has those bytes. -/
theorem rd_one {b : Tx} (h : (rd (b, 0)).2.2 = 0) : ∃ r, (rd (b, 0)).2 = (r, 0) ∧ b = raw (rd (b, 0)).1 ++ r := by
  unfold rd at h ⊢
  simp only at h ⊢
  have h4 : (rdO ((numS (b, 0) 4).1 : Nat) (rdG ((numS (b, 0) 4).1 : Nat) (rdT ((numS (b, 0) 4).1 : Nat) (numS (b, 0) 4).2).2).2).2.2 = 0 := by
    by_cases q : (rdO ((numS (b, 0) 4).1 : Nat) (rdG ((numS (b, 0) 4).1 : Nat) (rdT ((numS (b, 0) 4).1 : Nat) (numS (b, 0) 4).2).2).2).2.2 = 0
    · exact q
    · rw [rdR_err q] at h; exact h
  have h3 : (rdG ((numS (b, 0) 4).1 : Nat) (rdT ((numS (b, 0) 4).1 : Nat) (numS (b, 0) 4).2).2).2.2 = 0 := by
    by_cases q : (rdG ((numS (b, 0) 4).1 : Nat) (rdT ((numS (b, 0) 4).1 : Nat) (numS (b, 0) 4).2).2).2.2 = 0
    · exact q
    · rw [rdO_err q] at h4; exact h4
  have h2 : (rdT ((numS (b, 0) 4).1 : Nat) (numS (b, 0) 4).2).2.2 = 0 := by
    by_cases q : (rdT ((numS (b, 0) 4).1 : Nat) (numS (b, 0) 4).2).2.2 = 0
    · exact q
    · rw [rdG_err q] at h3; exact h3
  have h1 : (numS (b, 0) 4).2.2 = 0 := by
    by_cases q : (numS (b, 0) 4).2.2 = 0
    · exact q
    · rw [rdT_err q] at h2; exact h2
  have one_num : ∀ (x : Tx) (m : Nat), (numS (x, 0) m).2.2 = 0 → ∃ v r, numS (x, 0) m = (v, (r, 0)) ∧ x = enc v ++ r := by
    intro x m hx
    obtain ⟨g1, g2, g3, g4⟩ := numS_ok hx
    rcases hp : pn x 0 0 with ⟨v, j, e⟩
    simp only [hp] at g2 g4
    subst g2
    have hj := pn_one0 hp
    exact ⟨v, x.drop j, g4, by rw [← hj.1, List.take_append_drop]⟩
  obtain ⟨k, b1, ek, eb⟩ := one_num b 4 h1
  rw [ek] at h h4 h3 h2 ⊢
  simp only at h h4 h3 h2 ⊢
  have sT : ∃ t b2, rdT (k : Int) (b1, 0) = (t, (b2, 0)) ∧ b1 = (if hasT (k : Int) then encB t else []) ++ b2 := by
    unfold rdT at h2 ⊢
    cases hT : hasT (k : Int) with
    | true =>
      rw [hT] at h2
      obtain ⟨x, r, q1, q2⟩ := bytesS_one h2
      exact ⟨x, r, q1, q2⟩
    | false => exact ⟨[], b1, rfl, rfl⟩
  obtain ⟨t, b2, et, eb1⟩ := sT
  rw [et] at h h4 h3 ⊢
  simp only at h h4 h3 ⊢
  have sG : ∃ g b3, rdG (k : Int) (b2, 0) = (g, (b3, 0)) ∧ b2 = (if hasG (k : Int) then encB g else []) ++ b3 := by
    unfold rdG at h3 ⊢
    cases hT : hasG (k : Int) with
    | true =>
      rw [hT] at h3
      obtain ⟨x, r, q1, q2⟩ := bytesS_one h3
      exact ⟨x, r, q1, q2⟩
    | false => exact ⟨[], b2, rfl, rfl⟩
  obtain ⟨g, b3, eg, eb2⟩ := sG
  rw [eg] at h h4 ⊢
  simp only at h h4 ⊢
  have sO : ∃ f b4, rdO (k : Int) (b3, 0) = (f, (b4, 0)) ∧ b3 = (if hasO (k : Int) then enc f else []) ++ b4 := by
    unfold rdO at h4 ⊢
    cases hT : hasO (k : Int) with
    | true =>
      rw [hT] at h4
      obtain ⟨x, r, q1, q2⟩ := one_num b3 _ h4
      exact ⟨x, r, q1, q2⟩
    | false => exact ⟨0, b3, rfl, rfl⟩
  obtain ⟨f, b4, ef, eb3⟩ := sO
  rw [ef] at h ⊢
  simp only at h ⊢
  have sR : ∃ l b5, rdR (k : Int) (b4, 0) = (l, (b5, 0)) ∧ b4 = (if hasR (k : Int) then encL l else []) ++ b5 := by
    unfold rdR at h ⊢
    cases hT : hasR (k : Int) with
    | true =>
      rw [hT] at h
      obtain ⟨x, r, q1, q2⟩ := listS_one h
      exact ⟨x, r, q1, q2⟩
    | false => exact ⟨[], b4, rfl, rfl⟩
  obtain ⟨l, b5, er, eb4⟩ := sR
  rw [er]
  simp only
  refine ⟨b5, rfl, ?_⟩
  unfold raw
  simp only [Int.toNat_natCast]
  rw [eb, eb1, eb2, eb3, eb4]
  simp only [List.append_assoc]
theorem failS_zero {s : RS} {e : Int} (h : (failS s e).2 = 0) : s.2 = 0 ∧ e = 0 ∧ failS s e = s := by
  unfold failS at h ⊢
  by_cases h1 : s.2 ≠ 0
  · rw [if_pos h1] at h; exact absurd h h1
  · rw [if_neg h1] at h ⊢
    by_cases h2 : e ≠ 0
    · rw [if_pos h2] at h; exact absurd h h2
    · rw [if_neg h2]
      exact ⟨by omega, by omega, rfl⟩
theorem take_one {b : Tx} (h : (take (b, 0)).2.2 = 0) : check (take (b, 0)).1 = 0 ∧ ∃ r, (take (b, 0)).2 = (r, 0) ∧ b = raw (take (b, 0)).1 ++ r := by
  unfold take at h ⊢
  by_cases hf : (failS (rd (b, 0)).2 (check (rd (b, 0)).1)).2 ≠ 0
  · rw [if_pos hf] at h; exact absurd h hf
  · rw [if_neg hf] at h ⊢
    obtain ⟨q1, q2, q3⟩ := failS_zero h
    obtain ⟨r, e1, e2⟩ := rd_one q1
    simp only at h ⊢
    rw [q3]
    exact ⟨q2, r, e1, e2⟩
/-- The document's loop over records. -/
def dl : Nat → RS → List Tx → List Tx × RS
  | 0, s, acc => (acc, s)
  | n + 1, s, acc => dl n (bytesS s 64).2 (acc ++ [(bytesS s 64).1])
end Go.Proofs.YtkoedonllfmaaaaGreat.Pp

/-
  Layer 6 (op): the contract of read, kind by kind.
-/
namespace Go.Proofs.YtkoedonllfmaaaaGreat.Qb
set_option linter.unusedSimpArgs false
open Go Go.RowKit Ck Kw Ca Cb Ce Cf Cg Ch Ci Pm Pa Pe Pf Pg Ph Ppi Pk Pp
set_option linter.unusedVariables false

theorem results_row1 {P : Program} {fn : Func} {p : Tmp} {ty : TypeId} (h : fn.results = #[.cell p ty]) (tmps : Array Value) (w : World) (g : Nat) (t : TypeId) (cs : Array Value) (fr : Nat × Nat) (d : TypeDesc)
    (hp : tmps.getD p undef = .pointer (some ⟨g, 0, none⟩)) (hg : w.heap[g]? = some (.cells cs t fr))
    (hu : P.underlying ty = some d) (hd : (match d with | .struct _ | .array _ _ => true | _ => false) = true) (hi : (P.info? ty).map (·.size) = some cs.size) :
    (results fn tmps).run P w = .ok (.agg cs) w := by
  have hp' : tmps[p]?.getD undef = .pointer (some ⟨g, 0, none⟩) := by simpa using hp
  simp [results, h, hp', asAddr, run_loadVar_row w g t ty cs fr d hg hu hd hi]
theorem size_op : (Tryz.prog.info? 38).map (·.size) = some 5 := by kernel_rfl
theorem blk5 {w : World} {g : Nat} {t : TypeId} {a b c d e x0 x1 x2 x3 x4 : Value} (h : Blk w g t #[a, b, c, d, e]) :
    Blk (((((w.setCell ⟨g, 0, none⟩ x0).setCell ⟨g, 1, none⟩ x1).setCell ⟨g, 2, none⟩ x2).setCell ⟨g, 3, none⟩ x3).setCell ⟨g, 4, none⟩ x4) g t #[x0, x1, x2, x3, x4] := by
  have := ((((h.set_ 0 x0).set_ 1 x1).set_ 2 x2).set_ 3 x3).set_ 4 x4
  simpa using this
theorem Blk.cells5 {W : World} {g : Nat} {t : TypeId} {a b c d e : Value} (h : Blk W g t #[a, b, c, d, e]) :
    (W.cell? ⟨g, 0, none⟩ = some a ∧ W.cell? ⟨g, 1, none⟩ = some b ∧ W.cell? ⟨g, 2, none⟩ = some c ∧ W.cell? ⟨g, 3, none⟩ = some d ∧ W.cell? ⟨g, 4, none⟩ = some e) ∧
    (W.frozen? ⟨g, 0, none⟩ = false ∧ W.frozen? ⟨g, 1, none⟩ = false ∧ W.frozen? ⟨g, 2, none⟩ = false ∧ W.frozen? ⟨g, 3, none⟩ = false ∧ W.frozen? ⟨g, 4, none⟩ = false) :=
  ⟨⟨h.cell 0, h.cell 1, h.cell 2, h.cell 3, h.cell 4⟩, ⟨h.frozen 0, h.frozen 1, h.frozen 2, h.frozen 3, h.frozen 4⟩⟩

/-- The cells of no operation. -/
def Z5 : Array Value := #[.int .i64 0, .string ⟨#[]⟩, .string ⟨#[]⟩, .int .i64 0, .slice none 0 0]
/-- Within the call: the result's cells, the operation's, its kind's fields, the reader. -/
structure RD (w0 : World) (X : Nat → Prop) (g g1 g2 g3 : Nat) (k : Int) (cs : Array Value) (s : Cm.RS) (W : World) : Prop where
  grown : w0.grownBy W (some g)
  old : g < w0.heap.size
  new1 : w0.heap.size ≤ g1
  new2 : w0.heap.size ≤ g2
  new3 : w0.heap.size ≤ g3
  far : g1 ≠ g2
  far3 : g3 ≠ g2
  far4 : g3 ≠ g1
  res : Blk W g1 38 Z5
  op : Blk W g2 38 cs
  fld : FB W g3 k
  rd : CR W (fun k => X k ∨ w0.heap.size ≤ k) g s
section
variable {w0 W W' : World} {X : Nat → Prop} {g g1 g2 g3 : Nat} {k : Int} {cs cs' : Array Value} {s s' : Cm.RS}
theorem RD.next (h : RD w0 X g g1 g2 g3 k cs s W) (hg : W.grownBy W' (some g)) (hc : CR W' (fun k => X k ∨ w0.heap.size ≤ k) g s') : RD w0 X g g1 g2 g3 k cs s' W' := by
  have o := h.old; have n1 := h.new1; have n2 := h.new2; have n3 := h.new3
  exact ⟨h.grown.trans hg, h.old, h.new1, h.new2, h.new3, h.far, h.far3, h.far4, h.res.grown hg (by simp; omega), h.op.grown hg (by simp; omega), Blk.grown h.fld hg (by simp; omega), hc⟩
theorem RD.later (h : RD w0 X g g1 g2 g3 k cs s W) (hb : Below W.heap.size W W') : RD w0 X g g1 g2 g3 k cs s W' :=
  h.next (grown_of_below hb _) (h.rd.after hb)
theorem RD.put (h : RD w0 X g g1 g2 g3 k cs s W) (i : Nat) (u : Value) (hcs : cs.setIfInBounds i u = cs') : RD w0 X g g1 g2 g3 k cs' s (W.setCell ⟨g2, i, none⟩ u) := by
  subst hcs
  have o := h.old; have n1 := h.new1; have n2 := h.new2; have n3 := h.new3; have f1 := h.far; have f3 := h.far3
  exact ⟨grown_setCell h.grown (.inr n2) u, h.old, h.new1, h.new2, h.new3, h.far, h.far3, h.far4, h.res.far f1 u, h.op.set_ i u, Blk.far h.fld f3 u,
    h.rd.grown (row := some g2) (grown_setCell (World.grownBy.refl W (some g2)) (.inl rfl) u) (by simp; omega) (fun q hq _ => by injection hq with hq; exact .inr (by omega))⟩
end
theorem res_blk {W : World} {g1 : Nat} (h : Blk W g1 38 Z5) (x0 x1 x2 x3 x4 : Value) :
    (((((W.setCell ⟨g1, 0, none⟩ x0).setCell ⟨g1, 1, none⟩ x1).setCell ⟨g1, 2, none⟩ x2).setCell ⟨g1, 3, none⟩ x3).setCell ⟨g1, 4, none⟩ x4).heap[g1]? = some (.cells #[x0, x1, x2, x3, x4] 38 (0, 0)) := blk5 h
theorem wrap_i64n (z : Nat) (h : z ≤ 9223372036854775807) : IntKind.i64.wrap (z : Int) = (z : Int) := by
  simp [IntKind.wrap, IntKind.bits, IntKind.signed]
  omega
theorem ls_nil (W : World) (X : Nat → Prop) : Ls W X (.slice none 0 0) [] := ⟨[], Sl.nil _ _ _, fun i hi => absurd hi (by simp)⟩

end Go.Proofs.YtkoedonllfmaaaaGreat.Qb
