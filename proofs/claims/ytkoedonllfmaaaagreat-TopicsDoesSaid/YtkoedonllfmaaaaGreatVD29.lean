/-
  Contract of the program's topic: bytes.
-/
import Derived.Test.YtkoedonllfmaaaaGreatVD27
import Derived.Test.YtkoedonllfmaaaaGreatVD28
import Derived.Test.YtkoedonllfmaaaaGreatVD17
import Derived.Test.YtkoedonllfmaaaaGreatVD11
import Derived.Test.YtkoedonllfmaaaaGreatVD05
import Derived.Deep.RegionLaw
import Derived.Deep.RegionHeld3
namespace Go.Proofs.YtkoedonllfmaaaaGreat.Bt
set_option linter.unusedSimpArgs false
open Go Go.RowKit Go.Shelf Ck Kw Pk Cb Ga Kf Km Pm Pz Tm Tn Tq Kx Aa Ab Ac Ad Kr Bp Bq Br
attribute [local go_sem ↓] Go.wp_at_zero Go.wp_at_succ
attribute [local go_sem] Oper.semAt_some
set_option linter.unusedVariables false

/-- The cell gc holds a row of bytes from B on, in no block of X. -/
def Row (B gc : Nat) (X : Nat → Prop) (b : Tx) (W : World) : Prop :=
  ∃ A c, Blk W gc 49 #[.slice A b.length c] ∧ W.ownsRow B 5 1 (.slice A b.length c) b.length (BVs b) ∧ ∀ q, (Value.slice A b.length c).ownBlock = some q → ¬ X q
theorem Row.put {B gc : Nat} {X : Nat → Prop} {b b' : Tx} {A : Option Addr} {c : Nat} {v' : Value} {W W' : World} (hg : B ≤ gc) (hgX : ¬ X gc) (hX : ∀ q, X q → q < W.heap.size) (hk : Blk W gc 49 #[.slice A b.length c]) (h0 : W.ownsRow B 5 1 (.slice A b.length c) b.length (BVs b))
    (hv : ∀ q, (Value.slice A b.length c).ownBlock = some q → ¬ X q) (h1 : W'.ownsRow B 5 1 v' b'.length (BVs b')) (h2 : W.grownBy W' (Value.slice A b.length c).ownBlock) (h3 : v'.ownBlock = (Value.slice A b.length c).ownBlock ∨ ∀ k, v'.ownBlock = some k → W.heap.size ≤ k) :
    Row B gc X b' (W'.setCell ⟨gc, 0, none⟩ v') ∧ Ch (fun k => B ≤ k ∧ ¬ X k) W (W'.setCell ⟨gc, 0, none⟩ v') := by
  have hf := own_far h0 hk (by decide)
  have hk' := hk.grown h2 (fun e => hf e.symm)
  have hne := own_far h1 hk' (by decide)
  obtain ⟨A', c', rfl⟩ := own_shape h1
  refine ⟨⟨A', c', hk'.set_ 0 _, own_ch h1 ((Ch.refl (fun k => k = gc) W').setCell (p := ⟨gc, 0, none⟩) (fun _ => rfl) _) (fun k hk e => hne (by rw [hk, e])), fun q hq hx => ?_⟩, ?_⟩
  · rcases h3 with h3 | h3
    · exact hv q (by rw [← h3, hq]) hx
    · have := h3 q hq
      have := hX q hx
      omega
  · exact (Ch.of_grown (S := fun k => B ≤ k ∧ ¬ X k) h2 (fun q hq _ => ⟨(h0.lt q hq).1, hv q hq⟩)).setCell (p := ⟨gc, 0, none⟩) (fun _ => ⟨hg, hgX⟩) _
theorem Row.ch {B gc : Nat} {X Z : Nat → Prop} {b : Tx} {W W' : World} (h : Row B gc X b W) (c : Ch Z W W') (hg : ¬ Z gc) (hz : ∀ q, Z q → X q) : Row B gc X b W' := by
  obtain ⟨A, c1, h1, h2, h3⟩ := h
  exact ⟨A, c1, h1.ch c hg, own_ch h2 c (fun q hq hZ => h3 q hq (hz q hZ)), h3⟩
theorem Row.new {B gc : Nat} {X X' : Nat → Prop} {b : Tx} {W W' : World} (h : Row B gc X b W) (c : Below W.heap.size W W') (hx : ∀ q, X' q → X q ∨ W.heap.size ≤ q) : Row B gc X' b W' := by
  obtain ⟨A, c1, h1, h2, h3⟩ := h
  refine ⟨A, c1, h1.below c h1.lt, own_below h2 c, fun q hq hX => ?_⟩
  rcases hx q hX with h | h
  · exact h3 q hq h
  · have := (h2.lt q hq).2
    omega
theorem calm2 {P : Program} {c : Code} {Q : Exit → Act → World → Prop} {a : Act} {w : World} (h : c.wp P (Exit.then (fun a w => Q .normal a w) (fun _ _ _ => False)) a w) : c.wp P Q a w :=
  wp_mono h (fun e a w h => by cases e <;> first | exact h | exact h.elim)
theorem pos_mem : ∀ {gs : List Gp}, RG gs → ∀ g ∈ gs, pos gs g.n = some g.pos
  | [], _, g, hg => absurd hg (by simp)
  | g0 :: gs, h, g, hg => by
    rw [pos_cons]
    rcases List.mem_cons.1 hg with rfl | hg'
    · rw [if_pos rfl]
    · have := (List.pairwise_cons.1 h).1 g hg'
      rw [if_neg (fun e => by rw [e] at this; exact List.lt_irrefl _ this)]
      exact pos_mem (List.pairwise_cons.1 h).2 g hg'
theorem flat_le {α : Type} (f : α → Tx) (c : Nat) : ∀ l : List α, (∀ x ∈ l, (f x).length ≤ c) → (l.flatMap f).length ≤ c * l.length
  | [], _ => by simp
  | x :: l, h => by
    have h1 := h x (List.mem_cons_self ..)
    have h2 := flat_le f c l (fun y hy => h y (List.mem_cons_of_mem _ hy))
    simp only [List.flatMap_cons, List.length_append, List.length_cons, Nat.mul_add, Nat.mul_one]
    omega
theorem glook1 {w : World} {m n : Nat} {D : DataW Unit} {gs : List Gp} (h : w.ownsMap Tryz.prog 9 inElem m n D) (hT : TellsG D gs) (x : Tx) (hx : x.length ≤ 140737488355328) :
    (Instr.lookup 100 (.map (some m)) (.string ⟨x.toArray⟩) false).run Tryz.prog w = .ok (.int .i64 ((pos gs x).getD 0)) w := by
  obtain ⟨v, ps, hrun, hv⟩ := h.lookup law_str Tryz.underlying100 (zero_i64 w) (zd := .lit (.int .i64 0)) (zp := []) (inElem_mk 0) (key_str x (by simp only [maxLen]; omega))
  rw [hrun]
  cases hf : pos gs x with
  | some k =>
    rw [hT.2 x k hf] at hv
    rw [inElem_at hv]
    rfl
  | none =>
    rw [has_atKey (by rw [hT.1, hf]; rfl)] at hv
    rw [inElem_at hv]
    rfl
/-- A topic's bytes behind its name. -/
def tB (t : Tp) : Tx := Cm.enc t.base.toNat ++ (Cm.encL t.recs ++ (Cm.enc t.gs.length ++ t.gs.flatMap gpB))

theorem Rt.ch {R : Nat → Prop} {D B : Nat} {p : Int × Tx} {args : Array Value} {W W' : World} (h : Rt R B p args W) (c : Ch (Bk D) W W') (hR : ∀ k, R k → k < D) : Rt R B p args W' := by
  obtain ⟨A, cc, h1, h2⟩ := h
  exact ⟨A, cc, h1, h2.ch c (fun k _ hk hR' => by have := hR k hR'; rcases hk with h | h <;> omega)⟩
theorem two_of {args : Array Value} (h : args.size = 2) : ∃ x y, args = #[x, y] := by
  obtain ⟨l⟩ := args
  match l, h with
  | [x, y], _ => exact ⟨x, y, rfl⟩
/-- The frame of bytes, with the loop's variables. -/
def actB (n0 : Nat) (A1 : Option Addr) (c1 : Nat) (Ar : Option Addr) (m cr g gc B1 : Nat) (u19 : Value) (args : Array Value) : Act :=
  match args with
  | ⟨[x, y]⟩ => { tmps := #[.pointer (some ⟨g, 0, none⟩), undef, .slice none 0 0, .pointer (some ⟨gc, 0, none⟩), undef, y, undef, undef, .pointer (some ⟨g, 0, none⟩), .pointer (some ⟨g, 0, none⟩), .pointer (some ⟨g, 0, none⟩), .int .i64 (n0 : Int), .slice A1 (Cm.enc n0).length c1, .slice A1 (Cm.enc n0).length c1, .pointer (some ⟨g, 0, none⟩), .pointer (some ⟨g, 0, none⟩), .pointer (some ⟨g, 1, none⟩), .slice Ar m cr, .int .i64 (m : Int), u19, .pointer (some ⟨g, 0, none⟩), .func (.func 120) #[] #[.pointer (some ⟨B1, 0, none⟩)], x, y, undef, undef, undef, undef, undef, undef, undef, undef, undef, undef, undef, undef, undef, undef, undef, undef, undef, undef, undef, undef, undef, undef, undef, undef, undef, undef, undef, undef, undef, undef, undef], defers := [] }
  | _ => { tmps := #[], defers := [] }

set_option maxRecDepth 100000 in
set_option maxHeartbeats 4000000 in
theorem bytes_on (w : World) (T R : Nat → Prop) (g : Nat) (t : Tp) (v : Value) (mg : Nat) (h : Tg w T R g t v mg) (hf : FitT t) (hr : (t.gs.map (·.n)).Pairwise (· < ·)) (hT : ∀ k, T k → k < w.heap.size) (hR : ∀ k, R k → k < w.heap.size) :
    Calls Tryz.prog 62 #[.pointer (some ⟨g, 0, none⟩)] w fun e w' => Made w 5 (tB t) e w' := by
  refine (callsIn_wide (n := 6)).1 ?_
  have HT := Lib.hid h
  have HF := Lib.hid hf
  have HR := Lib.hid hr
  have HTL := Lib.hid hT
  have HRL := Lib.hid hR
  have c0 : w.cell? ⟨g, 0, none⟩ = some (.int .i64 t.base) := h.blk.cell 0
  obtain ⟨n0, hn0⟩ : ∃ n : Nat, t.base = (n : Int) := ⟨t.base.toNat, by have := hf.base; omega⟩
  have hn1 : n0 ≤ 9007199254740992 := by have h1 := hf.next; simp only [Tp.next, maxNum] at h1; omega
  have HN0 := Lib.hid hn0
  rw [hn0] at c0
  have HP0 := Lib.hid (pnum_any w.heap.size (.slice none 0 0) n0 [] w (World.ownsRow_nil _ _ _ _) (Nat.le_refl _) (by simp) (by omega))
  clear h hf hr hT hR hn0
  obtain ⟨vals, hrs, -⟩ := id HT.out.recs
  obtain ⟨Ar, cr, rfl⟩ := own_shape hrs
  have hfew := HF.out.few
  clear hrs
  refine callsIn_of_wp_marks Tryz.func62 rfl trivial ?_ rfl
  simp only [Tryz.ntmps62, List.size_toArray, List.length_cons, List.length_nil, Nat.reduceAdd, Nat.reduceSub, Array.replicate_succ, Array.replicate_zero, List.push_toArray, List.append_toArray, List.nil_append, List.cons_append]
  refine wpIn_wide.2 ?_
  go_wp2_with fail
  refine HP0.out.mono ?_
  rintro e w1 ⟨v1, rfl, ho1, hg1, -⟩
  obtain ⟨A1, c1, rfl⟩ := own_shape ho1
  have hb1 : Below w.heap.size w w1 := (Ch.of_grown (S := fun _ => False) hg1 (fun q hq _ => by simp [Value.ownBlock] at hq)).below (fun _ _ h => h) (Nat.le_refl _)
  simp only [List.nil_append] at ho1
  have hb2 : Below w.heap.size w (w1.alloc (.cells #[.slice A1 (Cm.enc n0).length c1] 49)) := hb1.alloc hb1.size _
  have hk2 : Blk (w1.alloc (.cells #[.slice A1 (Cm.enc n0).length c1] 49)) w1.heap.size 49 #[.slice A1 (Cm.enc n0).length c1] := Blk.new _ _ _
  have ho2 : (w1.alloc (.cells #[.slice A1 (Cm.enc n0).length c1] 49)).ownsRow w.heap.size 5 1 (.slice A1 (Cm.enc n0).length c1) (Cm.enc n0).length (BVs (Cm.enc n0)) := ho1.alloc _
  have hgc : w.heap.size ≤ w1.heap.size := hb1.size
  clear ho1 hg1 c0 hb1
  simp only [List.nil_append]
  go_wp2_with fail
  generalize w1.alloc (.cells #[.slice A1 (Cm.enc n0).length c1] 49) = W2 at *
  generalize w1.heap.size = gc at *
  have HT2 := Lib.hid (HT.out.later hb2)
  have d3 : W2.cell? ⟨gc, 0, none⟩ = some (.slice A1 (Cm.enc n0).length c1) := hk2.cell 0
  have d1 : W2.cell? ⟨g, 1, none⟩ = some (.slice Ar t.recs.length cr) := HT2.out.blk.cell 1
  have f3 := hk2.frozen 0
  have hen := (Cm.enc_len n0).1
  have HP2 := Lib.hid (pnum_any w.heap.size _ t.recs.length (Cm.enc n0) W2.drew ho2.drew hb2.size (by omega) (by omega))
  have HO2 := Lib.hid ho2
  have HK2 := Lib.hid hk2
  have HB2 := Lib.hid hb2
  clear ho2 hk2 hb2
  refine wp_mono (Q := Exit.then (fun a W => ∃ u19, a = { tmps := #[.pointer (some ⟨g, 0, none⟩), undef, .slice none 0 0, .pointer (some ⟨gc, 0, none⟩), undef, undef, undef, undef, .pointer (some ⟨g, 0, none⟩), .pointer (some ⟨g, 0, none⟩), .pointer (some ⟨g, 0, none⟩), .int .i64 (n0 : Int), .slice A1 (Cm.enc n0).length c1, .slice A1 (Cm.enc n0).length c1, .pointer (some ⟨g, 0, none⟩), .pointer (some ⟨g, 0, none⟩), .pointer (some ⟨g, 1, none⟩), .slice Ar t.recs.length cr, .int .i64 (t.recs.length : Int), u19, undef, undef, undef, undef, undef, undef, undef, undef, undef, undef, undef, undef, undef, undef, undef, undef, undef, undef, undef, undef, undef, undef, undef, undef, undef, undef, undef, undef, undef, undef, undef, undef, undef, undef, undef], defers := [] } ∧ Row w.heap.size gc (fun _ => False) (Cm.enc n0 ++ Cm.enc t.recs.length) W ∧ Below w.heap.size w W) (fun _ _ _ => False)) ?_ ?_
  · go_region_law (first
      | (go_simp; go_at_call 60; refine HP2.out.mono ?_; rintro e w3 ⟨v3, rfl, ho3, hg3, hv3⟩; obtain ⟨A3, c3, rfl⟩ := own_shape ho3; have q4 : Blk w3 gc 49 #[.slice A1 (Cm.enc n0).length c1] := (show Blk W2.drew gc 49 #[.slice A1 (Cm.enc n0).length c1] from HK2.out).grown hg3 (fun e => own_far HO2.out HK2.out (by decide) e.symm); have f4 := q4.frozen 0; have j4 := q4.cell 0; simp only [List.getElem?_toArray, List.getElem?_cons_zero] at j4; have HRW := Lib.hid (Row.put (X := fun _ => False) hgc (fun h => h) (fun _ h => h.elim) (show Blk W2.drew gc 49 #[.slice A1 (Cm.enc n0).length c1] from HK2.out) HO2.out.drew (fun _ _ h => h) ho3 hg3 hv3); clear ho3 hg3 hv3 q4))
    all_goals
      refine ⟨_, rfl, ?_, ?_⟩
      · have h := HRW.out.1
        simpa only [List.length_append] using h
      · have h := HRW.out.2
        have h2 : Below w.heap.size W2.drew (w3.setCell ⟨gc, 0, none⟩ (.slice A3 ((Cm.enc n0).length + (Cm.enc t.recs.length).length) c3)) := by
          have h3 := h.below (B := w.heap.size) (fun k hk h => by omega) HB2.out.size
          simpa only [List.length_append] using h3
        exact HB2.out.trans ⟨h2.os, h2.tape, h2.output, h2.size, h2.block⟩
  rintro e a W4 hpost
  cases e <;> first | exact hpost.elim | skip
  obtain ⟨u19, rfl, hR4, hB4⟩ := hpost
  have HR4 := Lib.hid hR4
  have HB4 := Lib.hid hB4
  clear hR4 hB4 HP2 HO2 HK2 d3 d1 f3
  go_wp2_with fail
  refine (all_ret W4 g).mono ?_
  rintro e W5 ⟨rfl, rfl⟩
  have hk5 : Blk (W4.alloc (.cells #[.pointer (some ⟨g, 0, none⟩)] 83)) W4.heap.size 83 #[.pointer (some ⟨g, 0, none⟩)] := Blk.new _ _ _
  have hb5 : Below W4.heap.size W4 (W4.alloc (.cells #[.pointer (some ⟨g, 0, none⟩)] 83)) := (Below.refl _ _).alloc (Nat.le_refl _) _
  have hz5 : W4.heap.size < (W4.alloc (.cells #[.pointer (some ⟨g, 0, none⟩)] 83)).heap.size := by simp
  generalize W4.alloc (.cells #[.pointer (some ⟨g, 0, none⟩)] 83) = W5 at *
  have hgc4 : gc < W4.heap.size := by obtain ⟨_, _, h, _⟩ := HR4.out; exact h.lt
  have hw4 := HB4.out.size
  generalize hB1 : W4.heap.size = B1 at *
  have HT5 := Lib.hid (HT.out.later (HB4.out.trans (hb5.mono hw4)))
  have HSEQ := Lib.hid (recs_seq 5 (by omega) (fun k => w.heap.size ≤ k ∧ k ≠ B1) T R W5 B1 g mg t _ hk5 (fun h => h.2 rfl) HT5.out (fun k hk h => by have := HTL.out k hk; omega) (fun k hk h => by have := HRL.out k hk; omega) HF.out.base HF.out.next HF.out.few)
  have HR5 : Hid (Row w.heap.size gc (fun q => q = B1 ∨ q = W5.heap.size ∨ q = W5.heap.size + 1) (Cm.enc n0 ++ Cm.enc t.recs.length ++ Cm.encP (t.recs.take 0)) W5) := Lib.hid (by
    have h := HR4.out.new (X' := fun q => q = B1 ∨ q = W5.heap.size ∨ q = W5.heap.size + 1) (hB1 ▸ hb5) (fun q hq => .inr (by omega))
    simpa [Cm.encP] using h)
  clear hk5
  go_wp2_with fail
  refine (wpIn_wide (n := 6)).1 ?_
  refine wpIn_rangeR rfl (by omega) (gf := 120) (lb := #[.pointer (some ⟨B1, 0, none⟩)]) rfl trivial (enters_of Tryz.func120 (by kernel_rfl) rfl) HSEQ.out (fun k hk => ⟨by omega, by omega⟩)
    (fun B p args W ⟨_, _, hh, _⟩ => by rw [hh]; rfl) (fun p args W W' hh c => Rt.ch hh c (fun k hk => by have := HRL.out k hk; omega))
    (fun k W => Row w.heap.size gc (fun q => q = B1 ∨ q = W5.heap.size ∨ q = W5.heap.size + 1) (Cm.enc n0 ++ Cm.enc t.recs.length ++ Cm.encP (t.recs.take k)) W) (fun _ _ _ => False)
    (fun k W W' hh _ c => hh.ch c (fun h => by rcases h with h | h <;> omega) (fun q hq => .inr hq)) (fun cc k W W' hh _ c => hh) HR5.out (actB n0 A1 c1 Ar t.recs.length cr g gc B1 u19) ?assign ?body ?done ?stop
  case assign =>
    intro l args W K hsz hK
    obtain ⟨x, y, rfl⟩ := two_of hsz
    gi_wp2_with fail
    exact hK
  case stop => exact fun _ _ _ _ _ h _ => h.elim
  case body =>
    intro l k hk args W hlt hcw hi hr
    rw [offs_len] at hk
    rw [offs_get t.base t.recs k hk] at hr
    obtain ⟨Ay, cy, rfl, hy⟩ := hr
    obtain ⟨Ab, cb, hkb, hob, hvb⟩ := hi
    have HK := Lib.hid hkb
    have HO := Lib.hid hob
    have HV := Lib.hid hvb
    have hpl := Pz.encP_small t.recs HF.out.each
    have hple := Cm.encP_le t.recs k
    have hy64 := HF.out.each _ (List.getElem_mem hk)
    have hen1 := (Cm.enc_len t.recs.length).1
    have HBL : Hid ((Cm.enc n0 ++ Cm.enc t.recs.length ++ Cm.encP (t.recs.take k)).length ≤ 8000) := Lib.hid (by simp only [List.length_append]; omega)
    have HE : Hid (Cm.enc n0 ++ Cm.enc t.recs.length ++ Cm.encP (t.recs.take k) ++ Cm.encB t.recs[k] = Cm.enc n0 ++ Cm.enc t.recs.length ++ Cm.encP (t.recs.take (k + 1))) := Lib.hid (by rw [Cm.encP_take hk, List.append_assoc])
    generalize Cm.enc n0 ++ Cm.enc t.recs.length ++ Cm.encP (t.recs.take k) = bk at *
    have HP := Lib.hid (pbytes_any w.heap.size _ _ _ _ bk t.recs[k] W hob (by omega) hy (by have := HBL.out; omega) (by have := HBL.out; omega))
    have d3 : W.cell? ⟨gc, 0, none⟩ = some (.slice Ab bk.length cb) := hkb.cell 0
    clear hkb hob hvb hy hple hpl hen1
    dsimp only [actB]
    gi_wp2_with fail
    refine ⟨trivial, CallsIn.inRound l (callsIn_wide.2 (HP.out.mono ?_))⟩
    rintro e w3 ⟨v3, rfl, ho3, hg3, hv3⟩
    obtain ⟨A3, c3, rfl⟩ := own_shape ho3
    have q4 := HK.out.grown hg3 (fun e => own_far HO.out HK.out (by decide) e.symm)
    have f4 := q4.frozen 0
    have j4 : w3.cell? ⟨gc, 0, none⟩ = some (.slice Ab bk.length cb) := q4.cell 0
    have HRW := Lib.hid (Row.put (X := fun q => q = B1 ∨ q = W5.heap.size ∨ q = W5.heap.size + 1) hgc (fun h => by omega) (fun q h => by omega) HK.out HO.out HV.out ho3 hg3 hv3)
    clear ho3 hg3 hv3 q4 d3
    gi_wp2_with fail
    have h1 := HRW.out.1
    have h2 := HRW.out.2
    simp only [List.length_append] at h1 h2
    rw [HE.out] at h1
    exact ⟨h2.mono (fun q _ hq => ⟨⟨hq.1, fun e => hq.2 (.inl e)⟩, fun e => hq.2 (.inr e)⟩), h1⟩
  case done =>
    intro W hcw hi hd
    rw [offs_len, List.take_length] at hi
    replace hi := hi.new (X' := fun q => q = B1 ∨ q = W5.heap.size) (Below.refl _ _) (fun q hq => .inl (by rcases hq with hq | hq; exact .inl hq; exact .inr (.inl hq)))
    have hwz := hcw.size
    have HCW := Lib.hid hcw
    have hdl : W5.heap.size < W.heap.size := (Array.getElem?_eq_some_iff.1 hd).1
    have HT6 : Hid (Tg W T R g t (.slice Ar t.recs.length cr) mg) := Lib.hid (HT5.out.ch hcw (fun k hk h => by have := HTL.out k hk; omega) (fun k hk h => by have := HRL.out k hk; omega))
    obtain ⟨D, hD, hTG⟩ := HT6.out.gs
    have hgr : RG t.gs := List.pairwise_map.1 HR.out
    have hsz := gs_size hD hTG hgr
    have hle := (map_ch hD ((Ch.refl (fun _ => False) W).drew) (fun h => h)).len Tryz.underlying100 3
    rw [hsz] at hle
    obtain ⟨Ab, cb, hkb, hob, hvb⟩ := hi
    have hpl := Pz.encP_small t.recs HF.out.each
    have hen1 := (Cm.enc_len t.recs.length).1
    have hen2 := (Cm.enc_len t.gs.length).1
    have hg8 := HF.out.groups
    have HBL : Hid ((Cm.enc n0 ++ Cm.enc t.recs.length ++ Cm.encP t.recs).length ≤ 8000) := Lib.hid (by simp only [List.length_append]; omega)
    have HTB : Hid (Cm.enc n0 ++ Cm.enc t.recs.length ++ Cm.encP t.recs ++ Cm.enc t.gs.length ++ t.gs.flatMap gpB = tB t) := Lib.hid (by
      unfold tB Cm.encL
      rw [HN0.out, Int.toNat_natCast]
      simp only [List.append_assoc])
    generalize Cm.enc n0 ++ Cm.enc t.recs.length ++ Cm.encP t.recs = b6 at *
    have HP6 := Lib.hid (pnum_any w.heap.size _ t.gs.length b6 W.drew hob.drew (by show _ ≤ W.heap.size; omega) (by have := HBL.out; omega) (by omega))
    have d3 : W.cell? ⟨gc, 0, none⟩ = some (.slice Ab b6.length cb) := hkb.cell 0
    have d2 : W.cell? ⟨g, 2, none⟩ = some (.map (some mg)) := HT6.out.blk.cell 2
    have f3 := hkb.frozen 0
    have HK6 := Lib.hid hkb
    have HO6 := Lib.hid hob
    have HV6 := Lib.hid hvb
    have HDF := Lib.hid hd
    have HDM := Lib.hid (And.intro hD hTG)
    have HGR := Lib.hid hgr
    clear hkb hob hvb hd hpl hen1 hcw hD hTG hgr hsz
    dsimp only
    go_wp2_with fail
    refine wp_mono (Q := Exit.then (fun a W' => ∃ u27 u33, a = { tmps := #[.pointer (some ⟨g, 0, none⟩), undef, .slice none 0 0, .pointer (some ⟨gc, 0, none⟩), undef, undef, undef, undef, .pointer (some ⟨g, 0, none⟩), .pointer (some ⟨g, 0, none⟩), .pointer (some ⟨g, 0, none⟩), .int .i64 (n0 : Int), .slice A1 (Cm.enc n0).length c1, .slice A1 (Cm.enc n0).length c1, .pointer (some ⟨g, 0, none⟩), .pointer (some ⟨g, 0, none⟩), .pointer (some ⟨g, 1, none⟩), .slice Ar t.recs.length cr, .int .i64 (t.recs.length : Int), u19, .pointer (some ⟨g, 0, none⟩), .func (.func 120) #[] #[.pointer (some ⟨B1, 0, none⟩)], undef, undef, undef, undef, undef, u27, .pointer (some ⟨g, 0, none⟩), .pointer (some ⟨g, 0, none⟩), .pointer (some ⟨g, 2, none⟩), .map (some mg), .int .i64 (t.gs.length : Int), u33, undef, undef, undef, undef, undef, undef, undef, undef, undef, undef, undef, undef, undef, undef, undef, undef, undef, undef, undef, undef, undef], defers := [{ target := .collected W5.heap.size, args := #[] }] } ∧ Row w.heap.size gc (fun q => q = B1 ∨ q = W5.heap.size) (b6 ++ Cm.enc t.gs.length) W' ∧ Ch (fun k => w.heap.size ≤ k ∧ ¬ (k = B1 ∨ k = W5.heap.size)) W W') (fun _ _ _ => False)) ?_ ?_
    · go_region_law (first
        | (go_simp; go_at_call 60; refine HP6.out.mono ?_; rintro e w3 ⟨v3, rfl, ho3, hg3, hv3⟩; obtain ⟨A3, c3, rfl⟩ := own_shape ho3; have q4 : Blk w3 gc 49 #[.slice Ab b6.length cb] := (show Blk W.drew gc 49 #[.slice Ab b6.length cb] from HK6.out).grown hg3 (fun e => own_far HO6.out HK6.out (by decide) e.symm); have f4 := q4.frozen 0; have j4 := q4.cell 0; simp only [List.getElem?_toArray, List.getElem?_cons_zero] at j4; have HRW := Lib.hid (Row.put (X := fun q => q = B1 ∨ q = W5.heap.size) hgc (fun h => by omega) (fun q h => by show q < W.heap.size; omega) (show Blk W.drew gc 49 #[.slice Ab b6.length cb] from HK6.out) HO6.out.drew HV6.out ho3 hg3 hv3); clear ho3 hg3 hv3 q4))
      all_goals
        refine ⟨_, _, rfl, ?_, ?_⟩
        · have h := HRW.out.1
          simpa only [List.length_append] using h
        · have h := HRW.out.2
          simp only [List.length_append] at h
          exact ch_of_drew h
    rintro e a W6 hpost
    cases e <;> first | exact hpost.elim | skip
    obtain ⟨u27, u33, rfl, hR6, hC6⟩ := hpost
    have HR6 := Lib.hid hR6
    have HC6 := Lib.hid hC6
    have hw6 := hC6.size
    have HT7 : Hid (Tg W6 T R g t (.slice Ar t.recs.length cr) mg) := Lib.hid (HT6.out.ch hC6 (fun k hk h => by have := HTL.out k hk; omega) (fun k hk h => by have := HRL.out k hk; omega))
    have HD7 : Hid (W6.heap[W5.heap.size]? = some (.deferred (some []))) := Lib.hid ((hC6.block _ hdl (fun h => h.2 (.inr rfl))).trans HDF.out)
    clear hR6 hC6 HP6 HO6 HK6 HV6 d3 d2 f3 hle
    go_wp2_with fail
    refine (gnames_on W6 T R g t _ mg HT7.out HR.out hg8).mono ?_
    rintro e W7 ⟨An, cn, rfl, hon, hb7⟩
    simp only [List.length_map] at hon ⊢
    have hD9 : W7.heap[W5.heap.size]? = some (.deferred (some [])) := (hb7.block _ (Nat.lt_of_lt_of_le hdl hw6)).trans HD7.out
    have HD9 := Lib.hid hD9
    have hT8 := HT7.out.later hb7
    have HT8 := Lib.hid hT8
    have HR8 : Hid (Row w.heap.size gc (fun q => q = W5.heap.size ∨ (Value.slice An t.gs.length cn).ownBlock = some q) (b6 ++ Cm.enc t.gs.length ++ (t.gs.take 0).flatMap gpB) W7) := Lib.hid (by
      have h := HR6.out.new (X' := fun q => q = W5.heap.size ∨ (Value.slice An t.gs.length cn).ownBlock = some q) hb7 (fun q hq => by
        rcases hq with hq | hq
        · exact .inl (.inr hq)
        · exact .inr (hon.lt q hq).1)
      simpa using h)
    have HON := Lib.hid hon
    have hw7 := hb7.size
    have HDB : Hid (Below w.heap.size w W7) := Lib.hid (by
      have h1 := HB4.out.trans (hb5.mono hw4)
      have h2 := HCW.out.below (B := w.heap.size) (fun k hk h => by omega) (by omega)
      have h3 := HC6.out.below (B := w.heap.size) (fun k hk h => by omega) (by omega)
      exact (h1.trans h2).trans (h3.trans (hb7.mono (by omega))))
    have HXL : Hid (∀ q, (q = W5.heap.size ∨ (Value.slice An t.gs.length cn).ownBlock = some q) → q < W7.heap.size) := Lib.hid (fun q hq => by
      rcases hq with hq | hq
      · omega
      · exact (HON.out.lt q hq).2)
    have HXG : Hid (¬ (gc = W5.heap.size ∨ (Value.slice An t.gs.length cn).ownBlock = some gc)) := Lib.hid (fun h => by
      rcases h with h | h
      · omega
      · have := (HON.out.lt gc h).1
        omega)
    clear hon hD9 hT8 hb7 hb5
    go_wp2_with fail
    go_loopw [37] (fun i wr => ∃ k : Nat, k ≤ t.gs.length ∧ i = .int .i64 (k : Int) ∧ Row w.heap.size gc (fun q => q = W5.heap.size ∨ (Value.slice An t.gs.length cn).ownBlock = some q) (b6 ++ Cm.enc t.gs.length ++ (t.gs.take k).flatMap gpB) wr ∧ Ch (fun q => w.heap.size ≤ q ∧ ¬ (q = W5.heap.size ∨ (Value.slice An t.gs.length cn).ownBlock = some q)) W7 wr) (fun i _ => t.gs.length - (intOf i).toNat)
    case atStart => exact ⟨0, Nat.zero_le _, rfl, HR8.out, Ch.refl _ _⟩
    case round =>
      obtain ⟨k, hk, rfl, hrw, hcr⟩ := hrel
      have HCR := Lib.hid hcr
      have hwr := hcr.size
      by_cases hlt : k < t.gs.length
      · have hltI : (k : Int) < (t.gs.length : Int) := by omega
        have honr := own_ch HON.out hcr (fun q hq h => h.2 (.inr hq))
        have HTR := Lib.hid (HT8.out.ch hcr (fun k hk h => by have := HTL.out k hk; omega) (fun k hk h => by have := HRL.out k hk; omega))
        obtain ⟨gn, hA, hcell⟩ : ∃ gn, An = some ⟨gn, 0, none⟩ ∧ wr.cell? ⟨gn, k, none⟩ = some (.string ⟨t.gs[k].n.toArray⟩) := by
          obtain ⟨g', c', hv, hb, hlt'⟩ := honr.form (by omega)
          obtain ⟨rfl, _, rfl⟩ := Value.slice.inj hv
          exact ⟨g', rfl, by rw [honr.cellAt k (by omega)]; simp [hlt]⟩
        subst hA
        obtain ⟨Ab, cb, hkb, hob, hvb⟩ := hrw
        have hgk := HF.out.g _ (List.getElem_mem hlt)
        obtain ⟨pk, hpk⟩ : ∃ n : Nat, t.gs[k].pos = (n : Int) := ⟨t.gs[k].pos.toNat, by have := hgk.pos; omega⟩
        have hpk2 : pk < 9223372036854775808 := by have := hgk.pos; simp only [maxNum] at this; omega
        have hnl := hgk.n
        have HPOS : Hid (pos t.gs t.gs[k].n = some (pk : Int)) := Lib.hid (by rw [pos_mem HGR.out _ (List.getElem_mem hlt), hpk])
        have HGP : Hid ((t.gs.take (k + 1)).flatMap gpB = (t.gs.take k).flatMap gpB ++ (Cm.encB t.gs[k].n ++ Cm.enc pk)) := Lib.hid (by
          rw [List.take_succ_eq_append_getElem hlt, List.flatMap_append]
          simp [gpB, hpk])
        have HBK : Hid ((b6 ++ Cm.enc t.gs.length ++ (t.gs.take k).flatMap gpB).length ≤ 9000) := Lib.hid (by
          have h1 := flat_le gpB 84 (t.gs.take k) (fun x hx => by
            have hx' := HF.out.g x (List.mem_of_mem_take hx)
            have h2 := (Cm.enc_len x.n.length).1
            have h3 := (Cm.enc_len x.pos.toNat).1
            have h4 := hx'.n
            simp only [gpB, List.length_append, Cm.encB_len]
            omega)
          have h5 : (t.gs.take k).length ≤ t.gs.length := by rw [List.length_take]; omega
          have h6 := HBL.out
          simp only [List.length_append]
          omega)
        generalize hbk : b6 ++ Cm.enc t.gs.length ++ (t.gs.take k).flatMap gpB = bk at *
        have HBKE := Lib.hid hbk
        have d3 : wr.cell? ⟨gc, 0, none⟩ = some (.slice Ab bk.length cb) := hkb.cell 0
        have hcv := conv_bytes t.gs[k].n
        have HO5 := Lib.hid (bytesWorld_out wr t.gs[k].n (by omega))
        have HB5 := Lib.hid (bytesWorld_below wr 5 ⟨t.gs[k].n.toArray⟩)
        have HK := Lib.hid hkb
        have HO := Lib.hid hob
        have HV := Lib.hid hvb
        clear hkb hob hvb hbk hgk hcr honr hpk
        go_wp2_with fail
        have HP := Lib.hid (pbytes_any w.heap.size _ (.slice Ab bk.length cb) _ _ bk t.gs[k].n (Lib.bytesWorld wr 5 ⟨t.gs[k].n.toArray⟩) (own_below HO.out HB5.out) (Nat.le_trans (by omega) HB5.out.size) (HO5.out.sl (X := fun _ => False) (fun _ _ _ h => h)) (by have := HBK.out; omega) (by have := HBK.out; omega))
        refine HP.out.mono ?_
        rintro e w3 ⟨v3, rfl, ho3, hg3, hv3⟩
        obtain ⟨A3, c3, rfl⟩ := own_shape ho3
        have q3 := HK.out.below HB5.out HK.out.lt
        have o3 := own_below HO.out HB5.out
        have q4 := q3.grown hg3 (fun e => own_far o3 q3 (by decide) e.symm)
        have f4 := q4.frozen 0
        have j4 : w3.cell? ⟨gc, 0, none⟩ = some (.slice Ab bk.length cb) := q4.cell 0
        have hrow := Row.put hgc HXG.out (fun q hq => Nat.lt_of_lt_of_le (HXL.out q hq) (Nat.le_trans hwr HB5.out.size)) q3 o3 HV.out ho3 hg3 hv3
        simp only [List.length_append] at hrow
        have HRW := Lib.hid hrow
        clear q3 o3 q4 ho3 hg3 hv3 hrow d3 hcv
        go_wp2_with fail
        have hr8 := HRW.out.1
        have hc8 : Ch (fun q => w.heap.size ≤ q ∧ ¬ (q = W5.heap.size ∨ (Value.slice (some ⟨gn, 0, none⟩) t.gs.length cn).ownBlock = some q)) wr _ := (Ch.of_below HB5.out (Nat.le_refl _)).trans HRW.out.2 (fun _ _ h => h)
        clear HRW j4 f4
        generalize hW8 : w3.setCell ⟨gc, 0, none⟩ (.slice A3 (bk.length + (Cm.encB t.gs[k].n).length) c3) = W8 at hr8 hc8 ⊢
        clear hW8
        obtain ⟨A8, c8, hk8, ho8, hv8⟩ := hr8
        have hw8 := hc8.size
        have HT9 := Lib.hid (HTR.out.ch hc8 (fun k hk h => by have := HTL.out k hk; omega) (fun k hk h => by have := HRL.out k hk; omega))
        obtain ⟨D9, hD9, hTG9⟩ := HT9.out.gs
        have hlk := glook1 (map_ch hD9 ((Ch.refl (fun _ => False) W8).drew) (fun h => h)) hTG9 t.gs[k].n (by omega)
        rw [HPOS.out, Option.getD_some] at hlk
        have HB8 : Hid ((bk ++ Cm.encB t.gs[k].n).length ≤ 9100) := Lib.hid (by have := HBK.out; have := (Cm.enc_len t.gs[k].n.length).1; simp only [List.length_append, Cm.encB_len]; omega)
        have HGP2 : Hid (bk ++ Cm.encB t.gs[k].n ++ Cm.enc pk = b6 ++ Cm.enc t.gs.length ++ (t.gs.take (k + 1)).flatMap gpB) := Lib.hid (by rw [HGP.out, ← HBKE.out]; simp only [List.append_assoc])
        generalize bk ++ Cm.encB t.gs[k].n = b8 at *
        have HP9 := Lib.hid (pnum_any w.heap.size _ pk b8 W8.drew ho8.drew (by show _ ≤ W8.heap.size; omega) (by have := HB8.out; omega) hpk2)
        have d3 : W8.cell? ⟨gc, 0, none⟩ = some (.slice A8 b8.length c8) := hk8.cell 0
        have d2 : W8.cell? ⟨g, 2, none⟩ = some (.map (some mg)) := HT9.out.blk.cell 2
        have f3 := hk8.frozen 0
        have HK8 := Lib.hid hk8
        have HO8 := Lib.hid ho8
        have HV8 := Lib.hid hv8
        have HC8 := Lib.hid hc8
        clear hk8 ho8 hv8 hc8 hD9 hTG9
        refine calm2 ?_
        go_region_law (first
          | (go_simp; go_at_call 60; refine HP9.out.mono ?_; rintro e w5 ⟨v5, rfl, ho5, hg5, hv5⟩; obtain ⟨A5, c5, rfl⟩ := own_shape ho5; have q5 : Blk w5 gc 49 #[.slice A8 b8.length c8] := (show Blk W8.drew gc 49 #[.slice A8 b8.length c8] from HK8.out).grown hg5 (fun e => own_far HO8.out HK8.out (by decide) e.symm); have f5 := q5.frozen 0; have j5 := q5.cell 0; simp only [List.getElem?_toArray, List.getElem?_cons_zero] at j5; have HRW := Lib.hid (Row.put (W := W8.drew) hgc HXG.out (fun q hq => show q < W8.heap.size from Nat.lt_of_lt_of_le (HXL.out q hq) (Nat.le_trans hwr hw8)) (show Blk W8.drew gc 49 #[.slice A8 b8.length c8] from HK8.out) HO8.out.drew HV8.out ho5 hg5 hv5); clear ho5 hg5 hv5 q5))
        all_goals
          have hr1 := HRW.out.1
          have hr2 := ch_of_drew HRW.out.2
          simp only [List.length_append] at hr1 hr2
          rw [HGP2.out] at hr1
          have HR1 := Lib.hid hr1
          have HR2 := Lib.hid ((HCR.out.trans HC8.out (fun _ _ h => h)).trans hr2 (fun _ _ h => h))
          clear hr1 hr2 HRW
          go_wp2_with fail
          go_roundw
          case rel => exact ⟨k + 1, by omega, by go_num, HR1.out, HR2.out⟩
          case measure => simp [intOf]; omega
      · have hke : k = t.gs.length := by omega
        subst hke
        rw [List.take_length, HTB.out] at hrw
        obtain ⟨Ab, cb, hkb, hob, hvb⟩ := hrw
        have d3 : wr.cell? ⟨gc, 0, none⟩ = some (.slice Ab (tB t).length cb) := hkb.cell 0
        have HO := Lib.hid hob
        have hdd : wr.heap[W5.heap.size]? = some (.deferred (some [])) := (hcr.block _ (by omega) (fun h => h.2 (.inl rfl))).trans HD9.out
        have HDD := Lib.hid hdd
        have hvb2 := hvb
        clear hkb hob hvb hdd hcr
        have HCR2 := Lib.hid (HCR.out.below (B := w.heap.size) (fun k hk h => by omega) (by omega))
        have HVB := Lib.hid (fun q hq h => hvb2 q hq h)
        go_wp2_with fail
        refine ⟨by simp, .inl ⟨_, _, rfl, run_takeDeferred HDD.out, ?_⟩⟩
        refine ⟨_, results_tmp rfl _ _ _, _, rfl, ?_, ?_⟩
        · exact own_ch HO.out (ch_putObj wr W5.heap.size (.deferred none)) (fun q hq e => HVB.out q hq (.inl e))
        · have h1 := (ch_putObj wr W5.heap.size (.deferred none)).below (B := w.heap.size) (fun k hk h => by omega) (by omega)
          exact HDB.out.trans (HCR2.out.trans h1)
end Go.Proofs.YtkoedonllfmaaaaGreat.Bt
