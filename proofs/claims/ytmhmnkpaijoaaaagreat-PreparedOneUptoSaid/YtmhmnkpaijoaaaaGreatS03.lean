import Derived.Test.YtmhmnkpaijoaaaaGreatS02
namespace Go.Proofs.YtmhmnkpaijoaaaaGreat.Psd
set_option linter.unusedSimpArgs false
open Go Go.RowKit Ck Kw Ga Kf Pm Pe Pg Ik Lk Jm Ja Jb Jc Jf Jg Jh Jl Jn Kc Kj Prv Prw Prx Pry Prz Psa Psb
set_option linter.unusedVariables false
section
variable {B : Nat} {w0 W W' : World} {q p g p' g' : Nat} {L1 L : List (List UInt8)} {G1 G : List Sg} {bs : List (List Sd)} {ds : List Int} {ss : List Sg} {vb vd vs v : Value} {R : List Sd} {vals : List Value} {rs : List (Option Addr × Nat)} {c : Nat -> Nat} {sb : Array Value} {vq : Value} {lq : List Value}
theorem BG.nine (h : BG B w0 q p g p' g' L1 G1 L G bs ds ss vb vd vs v R vals rs sb vq lq c W) (cc : Ch (fun k => c k = 9) W W') : BG B w0 q p g p' g' L1 G1 L G bs ds ss vb vd vs v R vals rs sb vq lq c W' := by
  have ag := Ag.refl W c
  exact ⟨below_hue h.lo h.below cc (by decide), h.hue.later cc.size, h.lo, h.hB, tl_hue h.tl h.hue (by decide) cc (by decide) ag, rt_hue h.rt h.hue (by decide) cc (by decide) ag, h.cq, blk_hue h.st h.cq cc (by decide), h.rb.turn cc (by decide) ag, h.bb.turn cc (by decide) ag, h.rd.turn cc (by decide) ag, h.rg.turn cc (by decide) ag, h.rr.turn cc (by decide) ag, h.dd.turn cc (by decide) ag, sl_hue h.rq cc (by decide) ag⟩
theorem BG.box (h : BG B w0 q p g p' g' L1 G1 L G bs ds ss vb vd vs v R vals rs sb vq lq c W) (b : Below W.heap.size W W') : BG B w0 q p g p' g' L1 G1 L G bs ds ss vb vd vs v R vals rs sb vq lq (paint c 9 W.heap.size W'.heap.size) W' := by
  have cc : Ch (fun k => c k = 100) W W' := Ch.of_below b (Nat.le_refl _)
  have ag := ag_paint W c 9 W'.heap.size
  have hq := h.st.lt
  have hl := h.below.size
  have hp : ∀ {j : Nat}, j ≠ 0 -> j ≠ 9 -> ∀ k, c k = j -> paint c 9 W.heap.size W'.heap.size k = j := fun {j} h0 h9 k hk => by
    by_cases hlt : k < W.heap.size
    . exact (paint_old hlt).trans hk
    . exact absurd (hk.symm.trans (h.hue k (by omega))) h0
  exact ⟨h.below.trans (b.mono h.below.size), h.hue.paint 9 b.size, fun k hk => (paint_old (by omega)).trans (h.lo k hk), h.hB, tl_hue h.tl h.hue (by decide) cc (by decide) ag, rt_hue h.rt h.hue (by decide) cc (by decide) ag, (paint_old hq).trans h.cq, blk_hue h.st h.cq cc (by decide), h.rb.turn cc (by decide) ag, h.bb.turn cc (by decide) ag, h.rd.turn cc (by decide) ag, h.rg.turn cc (by decide) ag, h.rr.turn cc (by decide) ag, h.dd.turn cc (by decide) ag, sl_hue h.rq cc (by decide) ag⟩
theorem BG.seal (h : BG B w0 q p g p' g' L1 G1 L G bs ds ss vb vd vs v R vals rs sb vq lq c W) {x : Q} {A : Option Addr} {n : Nat} (hls : Ls W (fun k => w0.heap.size <= k) (.slice A x.o.recs.length n) x.o.recs) (hx : x.o.recs.length <= 1048576) (hG : (G.length + 1) * 16 <= 140737488355328) :
    Calls Tryz.prog 40 #[.pointer (some ⟨p', 0, none⟩), .pointer (some ⟨g', 0, none⟩), QV x A n] W fun e w' => ∃ A' n', e = .returned (.tuple #[DV (sealR L x).1 A' n', .int .i64 (sealR L x).2]) /\ BG B w0 q p g p' g' L1 G1 (sealT L x) (sealG L G x) bs ds ss vb vd vs v R vals rs sb vq lq (paint c 2 W.heap.size w'.heap.size) w'
      /\ Ls w' (fun k => w0.heap.size <= k) (.slice A' (sealR L x).1.q.o.recs.length n') (sealR L x).1.q.o.recs /\ Ch (fun k => c k = 2) W w' := by
  have hlo : ∀ k, c k = 2 -> w0.heap.size <= k := fun k hk => by
    by_cases hl : k < w0.heap.size
    . have := h.lo k hl; omega
    . omega
  refine (rseal_any W (fun k => c k = 2) (fun k => w0.heap.size <= k) p' g' L G x A n h.rt hls (fun k _ hk => hlo k hk) (fun k hk => by have := h.below.size; omega) (by omega) hG).mono ?_
  rintro e w' ⟨A', n', he, ht, hl, hc⟩
  exact ⟨A', n', he, h.doc ht hc, hl, hc⟩
theorem BG.dig (h : BG B w0 q p g p' g' L1 G1 L G bs ds ss vb vd vs v R vals rs sb vq lq c W) {X : Nat -> Prop} {u : Value} {b : List Sd} (hb : BI W X u b) (hr : ∀ x ∈ b, x.q.o.recs.length <= 140737488355328) (hl : b.length <= 140737488355328) :
    Calls Tryz.prog 41 #[.pointer (some ⟨p', 0, none⟩), u] W fun e w' => e = .returned (.tuple #[.int .i64 (digR L b).1, .int .i64 (digR L b).2]) /\ BG B w0 q p g p' g' L1 G1 (digT L b) G bs ds ss vb vd vs v R vals rs sb vq lq (paint c 2 W.heap.size w'.heap.size) w' /\ Ch (fun k => c k = 2) W w' := by
  refine (rdigest2_any W (fun k => c k = 2) X p' g' L G b u h.rt hb hr hl).mono ?_
  rintro e w' ⟨he, ht, hc⟩
  exact ⟨he, h.doc ht hc, hc⟩
theorem BG.vote (h : BG B w0 q p g p' g' L1 G1 L G bs ds ss vb vd vs v R vals rs sb vq lq c W) (x : Vt) (d : Int) (hG : (G.length + 1) * 16 <= 140737488355328) :
    Calls Tryz.prog 42 #[.pointer (some ⟨p', 0, none⟩), .pointer (some ⟨g', 0, none⟩), .int .i64 x.key, .int .i64 x.kind, .int .i64 x.view, .int .i64 x.seq, .int .i64 d] W fun e w' => e = .returned (.tuple #[GV (vR L x d).1, .int .i64 (vR L x d).2]) /\ BG B w0 q p g p' g' L1 G1 (vT L x d) (vG L G x d) bs ds ss vb vd vs v R vals rs sb vq lq (paint c 2 W.heap.size w'.heap.size) w' /\ Ch (fun k => c k = 2) W w' := by
  refine (rvote_any W (fun k => c k = 2) p' g' L G x d h.rt hG).mono ?_
  rintro e w' ⟨he, ht, hc⟩
  exact ⟨he, h.doc ht hc, hc⟩
end
theorem BG.sign0 {B : Nat} {w0 W : World} {q p g p' g' : Nat} {L1 L : List (List UInt8)} {G1 G : List Sg} {bs : List (List Sd)} {ds : List Int} {vb vd v : Value} {R : List Sd} {vals : List Value} {rs : List (Option Addr × Nat)} {c : Nat -> Nat} {sb : Array Value} {vq : Value} {lq : List Value} (h : BG B w0 q p g p' g' L1 G1 L G bs ds [] vb vd (.slice none 0 0) v R vals rs sb vq lq c W) :
    BG B w0 q p g p' g' L1 G1 L G bs ds [(0, 0)] vb vd (.slice (some ⟨W.heap.size, 0, none⟩) 1 1) v R vals rs sb vq lq (paint c 6 W.heap.size (W.heap.size + 1)) (W.alloc (.cells #[.int .i64 0, .int .i64 0] 36)) := by
  have b : Below W.heap.size W (W.alloc (.cells #[.int .i64 0, .int .i64 0] 36)) := (Below.refl _ W).alloc (Nat.le_refl _) _
  have hz : (W.alloc (.cells #[.int .i64 0, .int .i64 0] 36)).heap.size = W.heap.size + 1 := by simp
  have cc : Ch (fun k => c k = 100) W (W.alloc (.cells #[.int .i64 0, .int .i64 0] 36)) := Ch.of_below b (Nat.le_refl _)
  have ag := ag_paint W c 6 (W.heap.size + 1)
  have hq := h.st.lt
  have hl := h.below.size
  have hp : Hue (W.alloc (.cells #[.int .i64 0, .int .i64 0] 36)) (paint c 6 W.heap.size (W.heap.size + 1)) := by
    have := h.hue.paint 6 b.size
    rwa [hz] at this
  refine ⟨h.below.trans (b.mono h.below.size), hp, fun k hk => (paint_old (by omega)).trans (h.lo k hk), h.hB, tl_hue h.tl h.hue (by decide) cc (by decide) ag, rt_hue h.rt h.hue (by decide) cc (by decide) ag, (paint_old hq).trans h.cq, blk_hue h.st h.cq cc (by decide), h.rb.turn cc (by decide) ag, h.bb.turn cc (by decide) ag, h.rd.turn cc (by decide) ag, ⟨?_, fun k hk => ?_⟩, h.rr.turn cc (by decide) ag, h.dd.turn cc (by decide) ag, sl_hue h.rq cc (by decide) ag⟩
  . refine ⟨by simp [GVs], .inr ⟨W.heap.size, 1, #[.int .i64 0, .int .i64 0], rfl, h.below.size, Blk.new W _ _, by simp, by simp only [maxLen]; omega, by simp, by simp [GVs]⟩⟩
  . simp only [Value.ownBlock, Option.some.injEq] at hk
    subst hk
    exact paint_new (Nat.le_refl _) (by omega)
structure KV (B : Nat) (w0 : World) (q p g p' g' : Nat) (L : List (List UInt8)) (G : List Sg) (bs : List (List Sd)) (ds : List Int) (ss : List Sg) (vb vd vs : Value) (vals : List Value) (vq : Value) (lq : List Value) (gx : Nat) (x : Vt × Nat) (c : Nat -> Nat) (W : World) : Prop where
  bg : BG B w0 q p g p' g' [] [] L G bs ds ss vb vd vs (.slice none 0 0) [] vals [] (SB p g p' g' vb vd vs) vq lq c W
  qb : Blk W gx 95 #[.int .i64 x.1.key, .int .i64 x.1.kind, .int .i64 x.1.view, .int .i64 x.1.seq, .int .u8 (x.2 : Int)]
  cx : c gx = 0
section
variable {B : Nat} {w0 W W' : World} {q p g p' g' gx : Nat} {L L' : List (List UInt8)} {G G' : List Sg} {bs : List (List Sd)} {ds : List Int} {ss : List Sg} {vb vd vs : Value} {vals : List Value} {c : Nat -> Nat} {vq : Value} {lq : List Value} {x : Vt × Nat}
theorem KV.later (h : KV B w0 q p g p' g' L G bs ds ss vb vd vs vals vq lq gx x c W) (b : Below W.heap.size W W') : KV B w0 q p g p' g' L G bs ds ss vb vd vs vals vq lq gx x c W' :=
  ⟨h.bg.later b, h.qb.below b h.qb.lt, h.cx⟩
theorem KV.box (h : KV B w0 q p g p' g' L G bs ds ss vb vd vs vals vq lq gx x c W) (b : Below W.heap.size W W') : KV B w0 q p g p' g' L G bs ds ss vb vd vs vals vq lq gx x (paint c 9 W.heap.size W'.heap.size) W' :=
  ⟨BG.box h.bg b, h.qb.below b h.qb.lt, (paint_old h.qb.lt).trans h.cx⟩
theorem KV.cells (h : KV B w0 q p g p' g' L G bs ds ss vb vd vs vals vq lq gx x c W) : W.cell? ⟨q, 2, none⟩ = some (.pointer (some ⟨p', 0, none⟩)) /\ W.cell? ⟨q, 3, none⟩ = some (.pointer (some ⟨g', 0, none⟩)) /\ W.cell? ⟨gx, 0, none⟩ = some (.int .i64 x.1.key) /\ W.cell? ⟨gx, 1, none⟩ = some (.int .i64 x.1.kind) /\ W.cell? ⟨gx, 2, none⟩ = some (.int .i64 x.1.view) /\ W.cell? ⟨gx, 3, none⟩ = some (.int .i64 x.1.seq) /\ W.cell? ⟨gx, 4, none⟩ = some (.int .u8 (x.2 : Int)) /\ W.cell? ⟨q, 5, none⟩ = some vd :=
  ⟨h.bg.st.cell 2, h.bg.st.cell 3, h.qb.cell 0, h.qb.cell 1, h.qb.cell 2, h.qb.cell 3, h.qb.cell 4, h.bg.st.cell 5⟩
theorem KV.vote (h : KV B w0 q p g p' g' L G bs ds ss vb vd vs vals vq lq gx x c W) (d : Int) (hG : (G.length + 1) * 16 <= 140737488355328) :
    Calls Tryz.prog 42 #[.pointer (some ⟨p', 0, none⟩), .pointer (some ⟨g', 0, none⟩), .int .i64 x.1.key, .int .i64 x.1.kind, .int .i64 x.1.view, .int .i64 x.1.seq, .int .i64 d] W fun e w' => e = .returned (.tuple #[GV (vR L x.1 d).1, .int .i64 (vR L x.1 d).2]) /\ KV B w0 q p g p' g' (vT L x.1 d) (Prw.vG L G x.1 d) bs ds ss vb vd vs vals vq lq gx x (paint c 2 W.heap.size w'.heap.size) w' /\ Ch (fun k => c k = 2) W w' := by
  refine (BG.vote h.bg x.1 d hG).mono ?_
  rintro e w' ⟨he, hb, hc⟩
  exact ⟨he, ⟨hb, h.qb.ch hc (fun hk => by have := h.cx; omega), (paint_old h.qb.lt).trans h.cx⟩, hc⟩
theorem KV.nine (h : KV B w0 q p g p' g' L G bs ds ss vb vd vs vals vq lq gx x c W) (cc : Ch (fun k => c k = 9) W W') : KV B w0 q p g p' g' L G bs ds ss vb vd vs vals vq lq gx x c W' :=
  ⟨BG.nine h.bg cc, h.qb.ch cc (fun hk => by have := h.cx; omega), h.cx⟩
theorem KV.set2 {gz : Nat} {t : TypeId} {a0 a1 x0 x1 : Value} (h : KV B w0 q p g p' g' L G bs ds ss vb vd vs vals vq lq gx x c W) (hg : c gz = 9) (hb : Blk W gz t #[a0, a1]) :
    KV B w0 q p g p' g' L G bs ds ss vb vd vs vals vq lq gx x c ((W.setCell ⟨gz, 0, none⟩ x0).setCell ⟨gz, 1, none⟩ x1) /\ Blk ((W.setCell ⟨gz, 0, none⟩ x0).setCell ⟨gz, 1, none⟩ x1) gz t #[x0, x1] :=
  ⟨h.nine (((Ch.refl (fun k => c k = 9) W).setCell (p := ⟨gz, 0, none⟩) (fun _ => hg) x0).setCell (p := ⟨gz, 1, none⟩) (fun _ => hg) x1), Prv.blk2 hb⟩
end
structure KS (B : Nat) (w0 : World) (q p g p' g' : Nat) (L : List (List UInt8)) (G : List Sg) (bs : List (List Sd)) (ds : List Int) (vb vd v : Value) (R : List Sd) (vals : List Value) (rs : List (Option Addr × Nat)) (vq : Value) (lq : List Value) (gx : Nat) (x : Q) (A : Option Addr) (n : Nat) (c : Nat -> Nat) (W : World) : Prop where
  bg : BG B w0 q p g p' g' [] [] L G bs ds [] vb vd (.slice none 0 0) v R vals rs (SB p g p' g' vb vd (.slice none 0 0)) vq lq c W
  qb : QB W gx x A n
  cx : c gx = 0
  ls : Ls W (fun k => w0.heap.size <= k) (.slice A x.o.recs.length n) x.o.recs
section
variable {B : Nat} {w0 W W' : World} {q p g p' g' gx : Nat} {L L' : List (List UInt8)} {G G' : List Sg} {bs : List (List Sd)} {ds : List Int} {vb vd v : Value} {R : List Sd} {vals : List Value} {rs : List (Option Addr × Nat)} {c : Nat -> Nat} {vq : Value} {lq : List Value} {x : Q} {A : Option Addr} {n : Nat}
theorem KS.later (h : KS B w0 q p g p' g' L G bs ds vb vd v R vals rs vq lq gx x A n c W) (b : Below W.heap.size W W') : KS B w0 q p g p' g' L G bs ds vb vd v R vals rs vq lq gx x A n c W' :=
  ⟨h.bg.later b, Blk.below h.qb b (Blk.lt h.qb), h.cx, h.ls.after b⟩
theorem KS.box (h : KS B w0 q p g p' g' L G bs ds vb vd v R vals rs vq lq gx x A n c W) (b : Below W.heap.size W W') : KS B w0 q p g p' g' L G bs ds vb vd v R vals rs vq lq gx x A n (paint c 9 W.heap.size W'.heap.size) W' :=
  ⟨BG.box h.bg b, Blk.below h.qb b (Blk.lt h.qb), (paint_old (Blk.lt h.qb)).trans h.cx, h.ls.after b⟩
theorem KS.nine {c : Nat -> Nat} (h : KS B w0 q p g p' g' L G bs ds vb vd v R vals rs vq lq gx x A n c W) (cc : Ch (fun k => c k = 9) W W') : KS B w0 q p g p' g' L G bs ds vb vd v R vals rs vq lq gx x A n c W' :=
  ⟨BG.nine h.bg cc, Blk.ch h.qb cc (fun hk => by have := h.cx; omega), h.cx, h.ls.ch cc (fun k hk hk2 => by
    by_cases hl : k < w0.heap.size
    . have := h.bg.lo k hl; omega
    . omega)⟩
theorem KS.set9 {c : Nat -> Nat} {gz : Nat} {t : TypeId} {a0 a1 a2 a3 a4 a5 a6 a7 a8 x0 x1 x2 x3 x4 x5 x6 x7 x8 : Value} (h : KS B w0 q p g p' g' L G bs ds vb vd v R vals rs vq lq gx x A n c W) (hg : c gz = 9) (hb : Blk W gz t #[a0, a1, a2, a3, a4, a5, a6, a7, a8]) :
    KS B w0 q p g p' g' L G bs ds vb vd v R vals rs vq lq gx x A n c (((((((((W.setCell ⟨gz, 0, none⟩ x0).setCell ⟨gz, 1, none⟩ x1).setCell ⟨gz, 2, none⟩ x2).setCell ⟨gz, 3, none⟩ x3).setCell ⟨gz, 4, none⟩ x4).setCell ⟨gz, 5, none⟩ x5).setCell ⟨gz, 6, none⟩ x6).setCell ⟨gz, 7, none⟩ x7).setCell ⟨gz, 8, none⟩ x8)
    /\ Blk (((((((((W.setCell ⟨gz, 0, none⟩ x0).setCell ⟨gz, 1, none⟩ x1).setCell ⟨gz, 2, none⟩ x2).setCell ⟨gz, 3, none⟩ x3).setCell ⟨gz, 4, none⟩ x4).setCell ⟨gz, 5, none⟩ x5).setCell ⟨gz, 6, none⟩ x6).setCell ⟨gz, 7, none⟩ x7).setCell ⟨gz, 8, none⟩ x8) gz t #[x0, x1, x2, x3, x4, x5, x6, x7, x8] := by
  refine ⟨h.nine (((((((((((Ch.refl (fun k => c k = 9) W).setCell (p := ⟨gz, 0, none⟩) (fun _ => hg) x0).setCell (p := ⟨gz, 1, none⟩) (fun _ => hg) x1).setCell (p := ⟨gz, 2, none⟩) (fun _ => hg) x2).setCell (p := ⟨gz, 3, none⟩) (fun _ => hg) x3).setCell (p := ⟨gz, 4, none⟩) (fun _ => hg) x4).setCell (p := ⟨gz, 5, none⟩) (fun _ => hg) x5).setCell (p := ⟨gz, 6, none⟩) (fun _ => hg) x6).setCell (p := ⟨gz, 7, none⟩) (fun _ => hg) x7).setCell (p := ⟨gz, 8, none⟩) (fun _ => hg) x8)), ?_⟩
  have := (((((((((hb.set_ 0 x0).set_ 1 x1).set_ 2 x2).set_ 3 x3).set_ 4 x4).set_ 5 x5).set_ 6 x6).set_ 7 x7).set_ 8 x8)
  simpa using this
theorem KS.cells (h : KS B w0 q p g p' g' L G bs ds vb vd v R vals rs vq lq gx x A n c W) : W.cell? ⟨q, 2, none⟩ = some (.pointer (some ⟨p', 0, none⟩)) /\ W.cell? ⟨q, 3, none⟩ = some (.pointer (some ⟨g', 0, none⟩)) /\ W.cell? ⟨gx, 0, none⟩ = some (.int .i64 x.client) /\ W.cell? ⟨gx, 1, none⟩ = some (.int .i64 x.time) /\ W.cell? ⟨gx, 2, none⟩ = some (.int .i64 x.o.kind) /\ W.cell? ⟨gx, 3, none⟩ = some (.string ⟨x.o.topic.toArray⟩) /\ W.cell? ⟨gx, 4, none⟩ = some (.string ⟨x.o.group.toArray⟩) /\ W.cell? ⟨gx, 5, none⟩ = some (.int .i64 x.o.off) /\ W.cell? ⟨gx, 6, none⟩ = some (.slice A x.o.recs.length n) := by
  obtain ⟨a0, a1, a2, a3, a4, a5, a6⟩ := QB.cells h.qb
  exact ⟨h.bg.st.cell 2, h.bg.st.cell 3, a0, a1, a2, a3, a4, a5, a6⟩
theorem KS.seal (h : KS B w0 q p g p' g' L G bs ds vb vd v R vals rs vq lq gx x A n c W) (hx : x.o.recs.length <= 1048576) (hG : (G.length + 1) * 16 <= 140737488355328) :
    Calls Tryz.prog 40 #[.pointer (some ⟨p', 0, none⟩), .pointer (some ⟨g', 0, none⟩), QV x A n] W fun e w' => ∃ A' n', e = .returned (.tuple #[DV (sealR L x).1 A' n', .int .i64 (sealR L x).2]) /\ KS B w0 q p g p' g' (sealT L x) (sealG L G x) bs ds vb vd v R vals rs vq lq gx x A n (paint c 2 W.heap.size w'.heap.size) w'
      /\ Ls w' (fun k => w0.heap.size <= k) (.slice A' (sealR L x).1.q.o.recs.length n') (sealR L x).1.q.o.recs /\ Ch (fun k => c k = 2) W w' := by
  refine (BG.seal h.bg h.ls hx hG).mono ?_
  rintro e w' ⟨A', n', he, hb, hl, hc⟩
  refine ⟨A', n', he, ⟨hb, Blk.ch h.qb hc (fun hk => by have := h.cx; omega), (paint_old (Blk.lt h.qb)).trans h.cx, h.ls.ch hc (fun k hk hk2 => ?_)⟩, hl, hc⟩
  by_cases hl : k < w0.heap.size
  . have := h.bg.lo k hl; omega
  . omega
end
def SJ (w : World) (q p g p' g' : Nat) (vq : Value) (lq : List Value) (z : Bz) (y : List (List UInt8) × List Sg × List Sd) (v : Value) (d : Sd) (gz : Nat) (W : World) : Prop := ∃ vb vd vals rs c A n, BG 0 w q p g p' g' [] [] y.1 y.2.1 z.bs z.ds [] vb vd (.slice none 0 0) v y.2.2 vals rs (SB p g p' g' vb vd (.slice none 0 0)) vq lq c W /\ Blk W gz 113 (DC d A n) /\ Ls W (fun k => w.heap.size <= k) (.slice A d.q.o.recs.length n) d.q.o.recs
end Go.Proofs.YtmhmnkpaijoaaaaGreat.Psd
