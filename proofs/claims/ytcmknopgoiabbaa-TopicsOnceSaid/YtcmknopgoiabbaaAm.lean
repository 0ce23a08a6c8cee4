/-
  Contracts of the program's topics: Bounds, Get.
-/
import Derived.Test.YtcmknopgoiabbaaAc
import Derived.Test.YtcmknopgoiabbaaTo
namespace Go.Proofs.Ytcmknopgoiabbaa.Am
set_option linter.unusedSimpArgs false
open Go Go.RowKit Ck Kw Ga Kf Km Pm Pz Tm Tn Tq To Aa Ab Ac
attribute [local go_sem ↓] Go.wp_at_zero Go.wp_at_succ
set_option linter.unusedVariables false

set_option maxRecDepth 100000 in
set_option maxHeartbeats 1000000 in
theorem bounds_any (w : World) (S R : Nat → Prop) (p : Nat) (s : St) (x : Tx) (hx : x.length ≤ 140737488355328) (h : Tz w S R p s) :
    Calls Try.prog 10 #[.pointer (some ⟨p, 0, none⟩), .string ⟨x.toArray⟩] w fun e w' => e = .returned (.tuple #[.int .i64 (boundsT s.L x).1, .int .i64 (boundsT s.L x).2.1, .int .i64 (boundsT s.L x).2.2]) ∧ Below w.heap.size w w' := by
  obtain ⟨m, D, G, V, M, F, hP⟩ := h
  have HF := Lib.hid (find_on w S R p m s D G V M F x hx hP)
  cases hf : findT s.L x with
  | none =>
    have e : boundsT s.L x = (0, 0, 4) := by rw [boundsT, hf]
    rw [e]
    rw [hf] at HF
    unfold PV at HF
    simp only [Option.map_none, Option.isSome_none] at HF
    clear hP hf e hx
    go_enter Try.func10, Try.ntmps10
    go_wp2_with fail
    refine HF.out.mono ?_
    rintro e w2 ⟨rfl, rfl⟩
    go_wp2_with fail
    go_ret3
    exact ⟨rfl, Below.refl _ _⟩
  | some t =>
    have e : boundsT s.L x = (t.base, t.next, 0) := by rw [boundsT, hf]
    rw [e]
    obtain ⟨ht, hn⟩ := findT_some hf
    have hT := hP.top t ht
    have hfit := hP.good.L.fit t ht
    have HN := Lib.hid (next_any w.drew _ R _ t _ _ (Tg.later hT (below_drewN (Below.refl _ w) 1)) hfit.base hfit.next)
    have c0 : w.cell? ⟨G t.n, 0, none⟩ = some (.int .i64 t.base) := hT.blk.cell 0
    have HT := Lib.hid hT
    rw [hf] at HF
    unfold PV at HF
    simp only [Option.map_some, Option.isSome_some] at HF
    clear hP hf e hx hT hfit ht hn
    go_enter Try.func10, Try.ntmps10
    go_wp2_with fail
    refine HF.out.mono ?_
    rintro e w2 ⟨rfl, rfl⟩
    go_wp2_with fail
    go_region_held3 (fun w' => w'.cell? ⟨G t.n, 0, none⟩ = some (.int .i64 t.base)) (first | exact c0 | exact j0)
      (first
        | (go_at_call 22; refine HN.out.mono ?_; rintro e w3 ⟨rfl, hb3⟩; have hb3' := below_of_drew hb3; have j0 : w3.cell? ⟨G t.n, 0, none⟩ = some (.int .i64 t.base) := (HT.out.blk.below hb3' HT.out.blk.lt).cell 0))
    all_goals
      go_wp2_with fail
      go_ret3
      exact ⟨rfl, hb3'⟩
/-- What Get leaves. -/
def Got (w : World) (r : Tx × Int) (e : Ending) (w' : World) : Prop := ∃ v, e = .returned (.tuple #[v, .int .i64 r.2]) ∧ w'.ownsRow w.heap.size 5 1 v r.1.length (BVs r.1) ∧ Below w.heap.size w w'
set_option maxRecDepth 100000 in
set_option maxHeartbeats 1000000 in
theorem get_any (w : World) (S R : Nat → Prop) (p : Nat) (s : St) (x : Tx) (k : Int) (hx : x.length ≤ 140737488355328) (h : Tz w S R p s) :
    Calls Try.prog 11 #[.pointer (some ⟨p, 0, none⟩), .string ⟨x.toArray⟩, .int .i64 k] w (Got w (getT s.L x k)) := by
  obtain ⟨m, D, G, V, M, F, hP⟩ := h
  have HF := Lib.hid (find_on w S R p m s D G V M F x hx hP)
  cases hf : findT s.L x with
  | none =>
    have e : getT s.L x k = ([], 4) := by rw [getT, hf]
    rw [e]
    rw [hf] at HF
    unfold PV at HF
    simp only [Option.map_none, Option.isSome_none] at HF
    clear hP hf e hx
    go_enter Try.func11, Try.ntmps11
    go_wp2_with fail
    refine HF.out.mono ?_
    rintro e w2 ⟨rfl, rfl⟩
    go_wp2_with fail
    go_ret2
    exact ⟨_, rfl, World.ownsRow_nil _ _ _ _, Below.refl _ _⟩
  | some t =>
    have e : getT s.L x k = if k < t.base ∨ t.next ≤ k then ([], 72) else (t.recs.getD (k - t.base).toNat [], 0) := by rw [getT, hf]
    rw [e]
    obtain ⟨ht, hn⟩ := findT_some hf
    have hT := hP.top t ht
    have hfit := hP.good.L.fit t ht
    have HN := Lib.hid (next_any w _ R _ t _ _ hT hfit.base hfit.next)
    have c0 : w.cell? ⟨G t.n, 0, none⟩ = some (.int .i64 t.base) := hT.blk.cell 0
    have HT := Lib.hid hT
    obtain ⟨vals, h1, h2⟩ := hT.recs
    obtain ⟨Ar, cr, hV⟩ := own_shape h1
    have HV := Lib.hid (And.intro h1 h2)
    have hb0 := hfit.base
    have hb1 := hfit.next
    have hfew := hfit.few
    have heach := hfit.each
    have HNX : Hid (t.next = t.base + (t.recs.length : Int)) := Lib.hid rfl
    simp only [maxNum] at hb1
    have HE := Lib.hid heach
    rw [hf] at HF
    unfold PV at HF
    simp only [Option.map_some, Option.isSome_some] at HF
    clear hP hf e hx hT hfit ht hn h1 h2 heach
    by_cases q1 : k < t.base
    · rw [if_pos (.inl q1)]
      go_enter Try.func11, Try.ntmps11
      go_wp2_with fail
      refine HF.out.mono ?_
      rintro e w2 ⟨rfl, rfl⟩
      go_wp2_with fail
      go_ret2
      exact ⟨_, rfl, World.ownsRow_nil _ _ _ _, Below.refl _ _⟩
    · have q1' : t.base ≤ k := by omega
      by_cases q2 : t.next ≤ k
      · rw [if_pos (.inr q2)]
        clear q1
        go_enter Try.func11, Try.ntmps11
        go_wp2_with fail
        refine HF.out.mono ?_
        rintro e w2 ⟨rfl, rfl⟩
        go_wp2_with fail
        refine HN.out.mono ?_
        rintro e w3 ⟨rfl, hb3⟩
        have HB3 := Lib.hid hb3
        clear hb3
        go_wp2_with fail
        go_ret2
        exact ⟨_, rfl, World.ownsRow_nil _ _ _ _, HB3.out⟩
      · have q2' : k < t.next := by omega
        have hj : (k - t.base).toNat < t.recs.length := by have := HNX.out; omega
        rw [if_neg (by omega), List.getD_eq_getElem?_getD, List.getElem?_eq_getElem hj]
        have hk : k = t.base + ((k - t.base).toNat : Int) := by omega
        generalize (k - t.base).toNat = j at *
        subst hk
        simp only [Option.getD_some]
        have hw : IntKind.i64.wrap (t.base + (j : Int) - t.base) = (j : Int) := by
          rw [show t.base + (j : Int) - t.base = (j : Int) from by omega]
          exact Ga.wrap64 (by omega) (by omega)
        have hw2 : t.base + (j : Int) - t.base = (j : Int) := by omega
        have hw3 : IntKind.i64.wrap (j : Int) = (j : Int) := Ga.wrap64 (by omega) (by omega)
        have hj2 : (j : Int) < (t.recs.length : Int) := by omega
        have HJ := Lib.hid hj
        clear q1 q2
        go_enter Try.func11, Try.ntmps11
        go_wp2_with fail
        refine HF.out.mono ?_
        rintro e w2 ⟨rfl, rfl⟩
        go_wp2_with fail
        refine HN.out.mono ?_
        rintro e w3 ⟨rfl, hb3⟩
        have HB3 := Lib.hid hb3
        have HT3 := Lib.hid (Tg.later HT.out hb3)
        clear hb3 c0
        obtain ⟨u, hu, hs⟩ := HV.out.2 j HJ.out
        have hs3 := hs.after HB3.out
        have hcell : ∃ g, Ar = some ⟨g, 0, none⟩ ∧ w3.cell? ⟨g, j, none⟩ = some u := by
          have ho := own_below HV.out.1 HB3.out
          rw [hV] at ho
          obtain ⟨g, c, hv, hb, hlt⟩ := ho.form (by have := HJ.out; omega)
          obtain ⟨rfl, _, rfl⟩ := Value.slice.inj hv
          exact ⟨g, rfl, by rw [ho.cellAt j (by have := HJ.out; omega), hu]⟩
        obtain ⟨g, rfl, hcell⟩ := hcell
        obtain ⟨Au, cu, rfl, -⟩ := id hs3
        have HCL := Lib.hid (clone_sh _ _ _ t.recs[j] w3.drew hs3.drew (by have := HE.out _ (List.getElem_mem HJ.out); omega))
        have c0 : w3.cell? ⟨G t.n, 0, none⟩ = some (.int .i64 t.base) := HT3.out.blk.cell 0
        have c1 : w3.cell? ⟨G t.n, 1, none⟩ = some (.slice (some ⟨g, 0, none⟩) t.recs.length cr) := by
          have := HT3.out.blk.cell 1
          rw [← hV]
          simpa using this
        clear hs hs3 hu
        go_wp2_with fail
        go_region_held3 (fun w' => w'.cell? ⟨G t.n, 0, none⟩ = some (.int .i64 t.base) ∧ w'.cell? ⟨G t.n, 1, none⟩ = some (.slice (some ⟨g, 0, none⟩) t.recs.length cr) ∧ w'.cell? ⟨g, j, none⟩ = some (.slice Au t.recs[j].length cu)) (first | exact ⟨c0, c1, hcell⟩ | exact ⟨j0, j1, j2⟩)
          (first
            | (go_at_call 23; refine HCL.out.mono ?_; rintro e w4 ⟨A4, c4, rfl, ho4, hb4⟩; have hb4' : Below w3.heap.size w3 w4 := below_of_drew hb4; have j0 : w4.cell? ⟨G t.n, 0, none⟩ = some (.int .i64 t.base) := (hb4'.cell (World.block_lt_of_cell? _ _ c0)).trans c0; have j1 : w4.cell? ⟨G t.n, 1, none⟩ = some (.slice (some ⟨g, 0, none⟩) t.recs.length cr) := (hb4'.cell (World.block_lt_of_cell? _ _ c1)).trans c1; have j2 : w4.cell? ⟨g, j, none⟩ = some (.slice Au t.recs[j].length cu) := (hb4'.cell (World.block_lt_of_cell? _ _ hcell)).trans hcell))
        all_goals
          go_wp2_with fail
          go_ret2
          exact ⟨_, rfl, own_base ho4 HB3.out.size, below_tr HB3.out hb4'⟩
end Go.Proofs.Ytcmknopgoiabbaa.Am
