import Derived.BigQuiet
import Derived.Deep.RegionHeld3
import Derived.Deep.RegionHeldLaw
import Derived.Deep.DeepCutAuto
import Derived.Test.YtmhmnkpaijoaaaaGreatS03
namespace Go.Proofs.YtmhmnkpaijoaaaaGreat.Psv
set_option linter.unusedSimpArgs false
open Go Go.RowKit Ck Cf Kw Ga Kf Pm Pe Pg Qb Ik Lk Jm Ja Jb Jf Jl Jn Kc Kj Pra Prb Pre Prv Prw Prx Pry Prz Psa Psb Psr Psu
attribute [local go_sem ↓] Go.wp_at_zero Go.wp_at_succ
set_option linter.unusedVariables false
set_option maxRecDepth 100000
abbrev Z7p : Array Value := #[.int .i64 0, .int .i64 0, .int .i64 0, .int .i64 0, .int .i64 0, .slice none 0 0, .slice none 0 0]
def Made (B : Nat) (W : World) (p : Pd) (e : Ending) (w' : World) : Prop := ∃ r, e = .returned (.agg (PC p r)) /\ Below W.heap.size W w' /\ PI w' (fun k => B <= k /\ k < W.heap.size) p r
structure Tag (W : World) : Prop where
theorem at_tag {P : Program} {ops : Array Oper} {o : Oper} {a : Act} {K : Act -> World -> Prop} {Q : Exit -> Act -> World -> Prop} {W : World} (t : Tag W) (h : if Region.wanted o (yielded ops a.tmps) = true then Oper.wp P o a W K Q else K (a.put o.dst undef) W) : if Region.wanted o (yielded ops a.tmps) = true then Oper.wp P o a W K Q else K (a.put o.dst undef) W := h
theorem info_sgn : (Tryz.prog.info? 36).map (fun i => (i.zero, i.size, i.bytes)) = some (some (.agg #[.int .i64 0, .int .i64 0]), 2, 16) := by kernel_rfl
theorem two_cell (W : World) (X : Nat -> Prop) (u v : Value) {g : Nat} {t : TypeId} (h : Blk W g t #[u, v]) (hX : ¬ X g) : Sl W X 2 (.slice (some ⟨g, 0, none⟩) 1 1) 1 [u, v] :=
  ⟨_, _, rfl, rfl, Nat.le_refl _, by simp only [maxLen]; omega, fun _ => ⟨_, rfl, h.lt, hX, fun j x hx => by
    have ha : (⟨g, 0, none⟩ : Addr).add j = ⟨g, j, none⟩ := by unfold Addr.add; split <;> simp_all
    rw [ha, h.cell j]
    simpa using hx⟩⟩
structure MD (W0 : World) (go : Nat) (s : Sp) (bv : Value) (dg : Int) (f : Sg) (vs : Value) (l : List Sg) (W : World) : Prop where
  b : Below W0.heap.size W0 W
  ho : W0.heap.size <= go
  blk : Blk W go 41 #[.int .i64 s.view, .int .i64 s.seq, .int .i64 dg, .int .i64 f.1, .int .i64 f.2, vs, bv]
  row : W.ownsRow W0.heap.size 36 2 vs l.length (GVs l)
  ap : vs.ownBlock ≠ some go
theorem ch_under {B : Nat} {S : Nat -> Prop} {W0 W W' : World} (hb : Below B W0 W) (cc : Ch S W W') (hs : ∀ k, k < B -> S k -> False) (hB : B <= W0.heap.size) : Below B W0 W' :=
  hb.trans (cc.below (fun k hk h => hs k hk h) (Nat.le_trans hB hb.size))
theorem MD.later {W0 W W' : World} {go : Nat} {s : Sp} {bv : Value} {dg : Int} {f : Sg} {vs : Value} {l : List Sg} (h : MD W0 go s bv dg f vs l W) (b : Below W.heap.size W W') : MD W0 go s bv dg f vs l W' :=
  ⟨h.b.trans (b.mono h.b.size), h.ho, h.blk.below b h.blk.lt, own_ch h.row (Ch.of_below (S := fun _ => False) b (Nat.le_refl _)) (fun _ _ h => h), h.ap⟩
theorem MD.push {W0 W W' : World} {go : Nat} {s : Sp} {bv : Value} {dg : Int} {f g : Sg} {vs vs' : Value} {l : List Sg} (h : MD W0 go s bv dg f vs l W) (ha : Appended W W0.heap.size 36 2 vs (l.length + 1) (GVs l ++ [.int .i64 g.1, .int .i64 g.2]) vs' W') :
    W'.cell? ⟨go, 5, none⟩ = some vs /\ W'.frozen? ⟨go, 5, none⟩ = false /\ MD W0 go s bv dg f vs' (l ++ [g]) (W'.setCell ⟨go, 5, none⟩ vs') := by
  have cc : Ch (fun k => vs.ownBlock = some k) W W' := Ch.of_grown ha.2.1 (fun k hk _ => hk)
  have hb := h.blk.ch cc (fun hx => h.ap hx)
  have hap : vs'.ownBlock ≠ some go := by
    rcases ha.2.2 with q | q
    . rw [q]; exact h.ap
    . rw [q]
      intro e
      injection e with e
      have := h.blk.lt
      omega
  have c2 : Ch (fun k => k = go) W' (W'.setCell ⟨go, 5, none⟩ vs') := (Ch.refl (fun k => k = go) W').setCell (p := ⟨go, 5, none⟩) (fun _ => rfl) _
  refine ⟨hb.cell 5, hb.frozen 5, ch_under (ch_under h.b cc (fun k hk hx => by have := (h.row.lt k hx).1; omega) (Nat.le_refl _)) c2 (fun k hk hx => by have := h.ho; omega) (Nat.le_refl _), h.ho, ?_, ?_, hap⟩
  . have := hb.set_ 5 vs'
    simpa using this
  . have := own_ch ha.1 c2 (fun k hk hx => hap (by rw [hk, hx]))
    rw [List.length_append, GVs_app]
    exact this
theorem MD.dig {W0 W : World} {go : Nat} {s : Sp} {bv : Value} {dg dz : Int} {f : Sg} {vs : Value} {l : List Sg} (h : MD W0 go s bv dg f vs l W) : MD W0 go s bv dz f vs l (W.setCell ⟨go, 2, none⟩ (.int .i64 dz)) := by
  have cc : Ch (fun k => k = go) W (W.setCell ⟨go, 2, none⟩ (.int .i64 dz)) := (Ch.refl (fun k => k = go) W).setCell (p := ⟨go, 2, none⟩) (fun _ => rfl) _
  refine ⟨ch_under h.b cc (fun k hk hx => by have := h.ho; omega) (Nat.le_refl _), h.ho, ?_, own_ch h.row cc (fun k hk hx => h.ap (by rw [hk, hx])), h.ap⟩
  have := h.blk.set_ 2 (.int .i64 dz)
  simpa using this
theorem made_end {B : Nat} {W W2 wr : World} {go : Nat} {s : Sp} {Db Al : Option Addr} {db cl : Nat} {dg : Int} {f : Sg} {l : List Sg} {bt : List Sd} (hW : B <= W.heap.size) (hb2 : Below W.heap.size W W2) (hr : Blk W2 (W.heap.size + 1) 41 Z7p) (hbi : BI W2 (fun k => B <= k) (.slice Db bt.length db) bt) (h : MD W2 go s (.slice Db bt.length db) dg f (.slice Al l.length cl) l wr) :
    Made B W ⟨s.view, s.seq, dg, f, l, bt⟩ (.returned (.agg #[.int .i64 s.view, .int .i64 s.seq, .int .i64 dg, .int .i64 f.1, .int .i64 f.2, .slice Al l.length cl, .slice Db bt.length db]))
      ((((((((wr).setCell ⟨W.heap.size + 1, 0, none⟩ (.int .i64 s.view)).setCell ⟨W.heap.size + 1, 1, none⟩ (.int .i64 s.seq)).setCell ⟨W.heap.size + 1, 2, none⟩ (.int .i64 dg)).setCell ⟨W.heap.size + 1, 3, none⟩ (.int .i64 f.1)).setCell ⟨W.heap.size + 1, 4, none⟩ (.int .i64 f.2)).setCell ⟨W.heap.size + 1, 5, none⟩ (.slice Al l.length cl)).setCell ⟨W.heap.size + 1, 6, none⟩ (.slice Db bt.length db)) := by
  have c7 := Pre.ch7 wr (W.heap.size + 1) (.int .i64 s.view) (.int .i64 s.seq) (.int .i64 dg) (.int .i64 f.1) (.int .i64 f.2) (.slice Al l.length cl) (.slice Db bt.length db)
  have hlt := hr.lt
  have hs2 := hb2.size
  have hbw : Below W.heap.size W wr := hb2.trans (h.b.mono hs2)
  refine ⟨((Al, cl), (Db, db)), rfl, ch_under hbw c7 (fun k hk hx => by omega) (Nat.le_refl _), ?_, ?_⟩
  . have ho := own_ch h.row c7 (fun k hk hx => by have := (h.row.lt k hk).1; omega)
    exact Sl.of_own' ho (fun k hk hx => by have := (h.row.lt k hk).1; omega)
  . exact ((hbi.after h.b).ch c7 (fun k hk hx => by omega)).weaken (fun k _ hk => hk.1)
set_option maxHeartbeats 8000000 in
theorem made_any (W : World) (B q p g p' g' : Nat) (z : Bz) (x : Vz) (vb vd vs : Value) (s : Sp) (X : Nat -> Prop) (A : Option Addr) (ca : Nat) (ks : List UInt8) (h : AtS W B q p g p' g' z x vb vd vs) (hk : Sl W X 1 (.slice A ks.length ca) ks.length (BVs ks)) (hs : s.signs = ks.map (·.toNat))
    (hb : s.batch < 256) (hf : s.first < 256) (h1 : 0 < z.bs.length) (h2 : z.ds.length = z.bs.length) (h3 : 0 < x.ss.length) (h4 : z.bs.length <= 1048577) (h5 : x.ss.length <= 1048577) (h6 : ks.length <= 8796093022208) :
    Calls Tryz.prog 11 #[.pointer (some ⟨q, 0, none⟩), .agg (SpC s A ks.length ca)] W (Made B W (madeP z x.ss s)) := by
  obtain ⟨⟨Ab, cb, rfl⟩, ⟨Ad, cd, rfl⟩, ⟨Ag, cg, rfl⟩⟩ := h.shapes
  have hmb : s.batch % z.bs.length < z.bs.length := Nat.mod_lt _ h1
  have hmf : s.first % x.ss.length < x.ss.length := Nat.mod_lt _ h3
  have HK := Lib.hid hk
  have HS := Lib.hid h
  have HZ := Lib.hid (And.intro h1 (And.intro h2 (And.intro h3 (And.intro h4 (And.intro h5 h6)))))
  clear h hk
  have e1 : Int.tmod (s.batch : Int) (z.bs.length : Int) = ((s.batch % z.bs.length : Nat) : Int) := by
    rw [Int.tmod_eq_emod_of_nonneg (by omega)]
    omega
  have f1 : Int.tmod (s.first : Int) (x.ss.length : Int) = ((s.first % x.ss.length : Nat) : Int) := by
    rw [Int.tmod_eq_emod_of_nonneg (by omega)]
    omega
  have HP0 : Hid (madeP z x.ss s = ⟨s.view, s.seq, if s.dig = 0 then (z.ds[s.batch % z.bs.length]?).getD 0 else s.dig, sgAt x.ss s.first, s.signs.map (sgAt x.ss), z.bs[s.batch % z.bs.length]'hmb⟩) := Lib.hid (by
    unfold madeP
    rw [List.getElem?_eq_getElem hmb]
    rfl)
  have hxf : sgAt x.ss s.first = x.ss[s.first % x.ss.length]'hmf := by
    rw [sgAt, List.getElem?_eq_getElem hmf]
    rfl
  have HXF := Lib.hid hxf
  clear hxf
  generalize s.batch % z.bs.length = mb at *
  generalize s.first % x.ss.length = mf at *
  have e2 : (mb : Int) < (z.bs.length : Int) := by omega
  have e3 : (z.bs.length : Int) ≠ 0 := by omega
  have e4 : (s.batch : Int) < 256 := by omega
  have e5 : (z.bs.length : Int) <= 1048577 := by omega
  have e6 : (0 : Int) <= (mb : Int) := by omega
  have f2 : (mf : Int) < (x.ss.length : Int) := by omega
  have f3 : (x.ss.length : Int) ≠ 0 := by omega
  have f4 : (s.first : Int) < 256 := by omega
  have f5 : (x.ss.length : Int) <= 1048577 := by omega
  have f6 : (0 : Int) <= (mf : Int) := by omega
  have f7 : x.ss.length ≠ 0 := by omega
  have f8 : x.ss ≠ [] := fun h => f7 (by rw [h]; rfl)
  have f9 : IntKind.i64.wrap (s.first : Int) = (s.first : Int) := Ga.wrap64 (by omega) (by omega)
  have hzv : ∀ W : World, (zeroValue 41).run Tryz.prog W = .ok (.agg Z7p) W := fun W => by kernel_rfl
  unfold Z7p at hzv
  unfold SpC
  clear h1 h2 h3 h4 h5 h6
  go_enter Tryz.func11, Tryz.ntmps11
  go_upto_region 1 with fail
  have hb1 : Below W.heap.size W ((W.alloc (.cells #[.int .i64 s.view, .int .i64 s.seq, .int .u8 (s.batch : Int), .int .i64 s.dig, .int .u8 (s.first : Int), .slice A ks.length ca] 34)).alloc (.cells #[.int .i64 0, .int .i64 0, .int .i64 0, .int .i64 0, .int .i64 0, .slice none 0 0, .slice none 0 0] 41)) := ((Below.refl _ W).alloc (Nat.le_refl _) _).alloc (by simp) _
  have hsp : Blk ((W.alloc (.cells #[.int .i64 s.view, .int .i64 s.seq, .int .u8 (s.batch : Int), .int .i64 s.dig, .int .u8 (s.first : Int), .slice A ks.length ca] 34)).alloc (.cells #[.int .i64 0, .int .i64 0, .int .i64 0, .int .i64 0, .int .i64 0, .slice none 0 0, .slice none 0 0] 41)) W.heap.size 34 #[.int .i64 s.view, .int .i64 s.seq, .int .u8 (s.batch : Int), .int .i64 s.dig, .int .u8 (s.first : Int), .slice A ks.length ca] := (Blk.new W _ _).alloc _
  have hrs : Blk ((W.alloc (.cells #[.int .i64 s.view, .int .i64 s.seq, .int .u8 (s.batch : Int), .int .i64 s.dig, .int .u8 (s.first : Int), .slice A ks.length ca] 34)).alloc (.cells #[.int .i64 0, .int .i64 0, .int .i64 0, .int .i64 0, .int .i64 0, .slice none 0 0, .slice none 0 0] 41)) (W.heap.size + 1) 41 #[.int .i64 0, .int .i64 0, .int .i64 0, .int .i64 0, .int .i64 0, .slice none 0 0, .slice none 0 0] := by
    have := Blk.new (W.alloc (.cells #[.int .i64 s.view, .int .i64 s.seq, .int .u8 (s.batch : Int), .int .i64 s.dig, .int .u8 (s.first : Int), .slice A ks.length ca] 34)) 41 #[.int .i64 0, .int .i64 0, .int .i64 0, .int .i64 0, .int .i64 0, .slice none 0 0, .slice none 0 0]
    simpa using this
  generalize (W.alloc (.cells #[.int .i64 s.view, .int .i64 s.seq, .int .u8 (s.batch : Int), .int .i64 s.dig, .int .u8 (s.first : Int), .slice A ks.length ca] 34)).alloc (.cells #[.int .i64 0, .int .i64 0, .int .i64 0, .int .i64 0, .int .i64 0, .slice none 0 0, .slice none 0 0] 41) = W1 at *
  have hs1 := HS.out.later hb1
  have q4 := hs1.st.cell 4
  have p2 := hsp.cell 2
  simp only [SB, List.getElem?_toArray, List.getElem?_cons_zero, List.getElem?_cons_succ] at q4 p2
  have HB1 := Lib.hid hb1
  have HSP := Lib.hid hsp
  have HRS := Lib.hid hrs
  have HS1 := Lib.hid hs1
  clear hb1 hsp hrs hs1
  go_quiet (fail)
  have HB2 : Hid (Below W.heap.size W (W1.drewN nq)) := Lib.hid (below_drewN HB1.out nq)
  have HSP2 : Hid (Blk (W1.drewN nq) W.heap.size 34 #[.int .i64 s.view, .int .i64 s.seq, .int .u8 (s.batch : Int), .int .i64 s.dig, .int .u8 (s.first : Int), .slice A ks.length ca]) := Lib.hid HSP.out
  have HRS2 : Hid (Blk (W1.drewN nq) (W.heap.size + 1) 41 #[.int .i64 0, .int .i64 0, .int .i64 0, .int .i64 0, .int .i64 0, .slice none 0 0, .slice none 0 0]) := Lib.hid HRS.out
  have HS2 := Lib.hid (HS1.out.later (below_drewN (Below.refl _ W1) nq))
  clear HB1 HSP HRS HS1 q4 p2
  generalize W1.drewN nq = W2 at *
  obtain ⟨ab, Db, db, rfl, cbk, hbi⟩ := HS2.out.batch hmb
  obtain ⟨ag, rfl, cg0, cg1⟩ := HS2.out.sign hmf
  have HBI := Lib.hid hbi
  clear hbi
  have q4 := HS2.out.st.cell 4
  have q6 := HS2.out.st.cell 6
  have p0 := HSP2.out.cell 0
  have p1 := HSP2.out.cell 1
  have p3 := HSP2.out.cell 3
  have p4 := HSP2.out.cell 4
  simp only [SB, List.getElem?_toArray, List.getElem?_cons_zero, List.getElem?_cons_succ] at q4 q6 p0 p1 p3 p4
  rw [<- HXF.out] at cg0 cg1
  generalize sgAt x.ss s.first = f at *
  generalize z.bs[mb] = bt at *
  have HDG : Hid (∃ h : mb < z.ds.length, (z.ds[mb]?).getD 0 = z.ds[mb]'h) := Lib.hid (by
    have h : mb < z.ds.length := by have := HZ.out.2.1; omega
    exact ⟨h, by rw [List.getElem?_eq_getElem h]; rfl⟩)
  clear HXF hmb hmf
  go_upto_region 2 with fail
  go_cut [6] (fun s6 wx => ∃ go, s6 = .pointer (some ⟨go, 0, none⟩) /\ W2.heap.size <= go /\ Below W2.heap.size W2 wx /\ Blk wx go 41 #[.int .i64 s.view, .int .i64 s.seq, .int .i64 s.dig, .int .i64 f.1, .int .i64 f.2, .slice none 0 0, .slice Db bt.length db])
  case first =>
    have hb2 : ∀ o, Below W2.heap.size W2 (W2.alloc o) := fun o => (Below.refl _ W2).alloc (Nat.le_refl _) _
    go_region_held3 (fun w' => w'.cell? ⟨q, 4, none⟩ = some (.slice (some ab) z.bs.length cb) /\ w'.cell? ⟨q, 6, none⟩ = some (.slice (some ag) x.ss.length cg) /\ w'.cell? ⟨W.heap.size, 0, none⟩ = some (.int .i64 s.view) /\ w'.cell? ⟨W.heap.size, 1, none⟩ = some (.int .i64 s.seq) /\ w'.cell? ⟨W.heap.size, 3, none⟩ = some (.int .i64 s.dig) /\ w'.cell? ⟨W.heap.size, 4, none⟩ = some (.int .u8 (s.first : Int)) /\ w'.cell? (ab.add mb) = some (.slice Db bt.length db) /\ w'.cell? (ag.add (mf * 2)) = some (.int .i64 f.1) /\ w'.cell? ⟨(ag.add (mf * 2)).block, (ag.add (mf * 2)).off + 1, none⟩ = some (.int .i64 f.2))
      (first | (go_keep; done))
      (first | fail)
    all_goals
      go_wp2_with fail
      go_meet
      exact ⟨_, rfl, Nat.le_refl _, (show Below W2.heap.size W2 ((W2.alloc (.cells #[.int .i64 s.view, .int .i64 s.seq, .int .i64 s.dig, .int .i64 f.1, .int .i64 f.2, .slice none 0 0, .slice Db bt.length db] 41)).drewN 1) from below_drewN (hb2 _) 1), Blk.new W2 _ _⟩
  case rest =>
    obtain ⟨go, rfl, hgo, hbw, hblk⟩ := hcut
    have hmd : MD W2 go s (.slice Db bt.length db) s.dig f (.slice none 0 0) [] wc := ⟨hbw, hgo, hblk, World.ownsRow_nil _ _ _ _, by simp [Value.ownBlock]⟩
    have c2 := hblk.cell 2
    have r2 := hblk.frozen 2
    have hs3 := HS2.out.later hbw
    have q5 := hs3.st.cell 5
    simp only [SB, List.getElem?_toArray, List.getElem?_cons_zero, List.getElem?_cons_succ] at c2 q5
    obtain ⟨hmd2, hdg⟩ := HDG.out
    obtain ⟨ai, rfl, ci⟩ := hs3.digest hmd2
    rw [<- hdg] at ci
    clear hdg hs3 hbw hblk
    generalize (z.ds[mb]?).getD 0 = dz at *
    have e2' : (mb : Int) < (z.ds.length : Int) := by omega
    have e5' : (z.ds.length : Int) <= 1048577 := by have := HZ.out.2.1; omega
    have hkl : (ks.length : Int) <= 8796093022208 := by have := HZ.out.2.2.2.2.2; omega
    have HP5 : Hid (∀ w', Below W2.heap.size W2 w' -> w'.cell? ⟨W.heap.size, 5, none⟩ = some (.slice A ks.length ca)) := Lib.hid (fun w' b => (HSP2.out.below b HSP2.out.lt).cell 5)
    have HKW : Hid (∀ w', Below W2.heap.size W2 w' -> Sl w' X 1 (.slice A ks.length ca) ks.length (BVs ks)) := Lib.hid (fun w' b => HK.out.after (HB2.out.trans (b.mono HB2.out.size)))
    clear hmd2
    by_cases hd : s.dig = 0
    . have hd1 : (s.dig == 0) = true := by rw [hd]; rfl
      rw [if_pos hd] at HP0
      have hmd := hmd.dig (dz := dz)
      clear hd
      have HMD := Lib.hid hmd
      have p5 := HP5.out _ hmd.b
      clear hmd
      go_wp2_with fail
      clear c2 r2 q5 ci p5
      generalize wc.setCell ⟨go, 2, none⟩ (.int .i64 dz) = w3 at *
      go_loopw [61] (fun i wr => ∃ k : Nat, k <= ks.length /\ i = .int .i64 k /\ ∃ vs, MD W2 go s (.slice Db bt.length db) dz f vs ((s.signs.take k).map (sgAt x.ss)) wr) (fun i _ => ks.length - (intOf i).toNat)
      case atStart => exact ⟨0, Nat.zero_le _, rfl, _, HMD.out⟩
      case round =>
        obtain ⟨k, hk, rfl, vs, hmd⟩ := hrel
        clear HMD
        by_cases hkt : k < ks.length
        . have hkp : (0 : Int) <= (k : Int) := by omega
          have hkn : (k : Int) < (ks.length : Int) := by omega
          have hkd : decide ((k : Int) < (ks.length : Int)) = true := decide_eq_true hkn
          obtain ⟨ad, rfl, ck⟩ := Sl_at (HKW.out _ hmd.b) hkt
          have HSG : Hid (k < s.signs.length /\ s.signs[k]? = some ks[k].toNat) := Lib.hid (by
            have h1 : k < s.signs.length := by rw [hs, List.length_map]; exact hkt
            exact ⟨h1, by rw [hs, List.getElem?_map, List.getElem?_eq_getElem hkt]; rfl⟩)
          have hby : ks[k].toNat < 256 := ks[k].toNat_lt
          have HKT := Lib.hid hkt
          generalize ks[k].toNat = sb at *
          have hms : sb % x.ss.length < x.ss.length := Nat.mod_lt _ (by have := HZ.out.2.2.1; omega)
          have g1 : Int.tmod (sb : Int) (x.ss.length : Int) = ((sb % x.ss.length : Nat) : Int) := by
            rw [Int.tmod_eq_emod_of_nonneg (by omega)]
            omega
          have hwa := HS2.out.later (hmd.b.trans (((Below.refl _ wr).alloc (Nat.le_refl _) (.cells #[.int .i64 x.ss[sb % x.ss.length].1, .int .i64 x.ss[sb % x.ss.length].2] 36)).mono hmd.b.size))
          obtain ⟨ax, has, cs0, cs1⟩ := (HS2.out.later hmd.b).sign hms
          injection has with has
          subst has
          have hxg : sgAt x.ss sb = x.ss[sb % x.ss.length]'hms := by
            rw [sgAt, List.getElem?_eq_getElem hms]
            rfl
          rw [<- hxg] at cs0 cs1 hwa
          have HAP : Hid ((s.signs.take (k + 1)).map (sgAt x.ss) = (s.signs.take k).map (sgAt x.ss) ++ [sgAt x.ss sb]) := Lib.hid (by
            rw [List.take_succ_eq_append_getElem HSG.out.1, List.map_append]
            have := HSG.out.2
            rw [List.getElem?_eq_getElem HSG.out.1] at this
            rw [Option.some.inj this]
            rfl)
          have hll : ((s.signs.take k).map (sgAt x.ss)).length = k := by
            rw [List.length_map, List.length_take]
            have := HSG.out.1
            omega
          clear hxg
          generalize hms' : sb % x.ss.length = ms at *
          generalize sgAt x.ss sb = sg at *
          generalize (s.signs.take k).map (sgAt x.ss) = l at *
          have g2 : (ms : Int) < (x.ss.length : Int) := by omega
          have g4 : (sb : Int) < 256 := by omega
          have g6 : (0 : Int) <= (ms : Int) := by omega
          have g9 : IntKind.i64.wrap (sb : Int) = (sb : Int) := Ga.wrap64 (by omega) (by omega)
          obtain ⟨Al, cl, rfl⟩ := own_shape hmd.row
          have q6 := (HS2.out.later hmd.b).st.cell 6
          have a6 : (wr.alloc (.cells #[.int .i64 sg.1, .int .i64 sg.2] 36)).drew.cell? ⟨q, 6, none⟩ = some (.slice (some ag) x.ss.length cg) := hwa.st.cell 6
          have o5 := hmd.blk.cell 5
          have ha := (hmd.later ((Below.refl _ wr).alloc (Nat.le_refl _) (.cells #[.int .i64 sg.1, .int .i64 sg.2] 36))).later (below_drewN (Below.refl _ _) 1)
          have b5 : (wr.alloc (.cells #[.int .i64 sg.1, .int .i64 sg.2] 36)).drew.cell? ⟨go, 5, none⟩ = some (.slice Al l.length cl) := ha.blk.cell 5
          simp only [SB, List.getElem?_toArray, List.getElem?_cons_zero, List.getElem?_cons_succ] at q6 o5
          have kA : Blk (wr.alloc (.cells #[.int .i64 sg.1, .int .i64 sg.2] 36)).drew wr.heap.size 36 #[.int .i64 sg.1, .int .i64 sg.2] := Blk.new wr _ _
          have SA : Hid (Sl (wr.alloc (.cells #[.int .i64 sg.1, .int .i64 sg.2] 36)).drew (fun _ => False) 2 (.slice (some ⟨wr.heap.size, 0, none⟩) 1 1) 1 [.int .i64 sg.1, .int .i64 sg.2]) := Lib.hid (two_cell _ _ _ _ kA (fun h => h))
          have HOW : Hid ((wr.alloc (.cells #[.int .i64 sg.1, .int .i64 sg.2] 36)).drew.ownsRow W2.heap.size 36 2 (.slice Al l.length cl) l.length (GVs l) /\ W2.heap.size <= (wr.alloc (.cells #[.int .i64 sg.1, .int .i64 sg.2] 36)).drew.heap.size) := Lib.hid ⟨ha.row, ha.b.size⟩
          have HV1 : Hid (∀ u ∈ [(Value.int .i64 sg.1), .int .i64 sg.2], u.oneCell' = true) := Lib.hid (fun u hu => by
            simp only [List.mem_cons, List.not_mem_nil, or_false] at hu
            rcases hu with rfl | rfl <;> rfl)
          have HN1 : Hid (l.length + 1 <= maxLen /\ (l.length + 1) * 16 <= 140737488355328) := Lib.hid (by
            have := HZ.out.2.2.2.2.2
            simp only [maxLen]
            omega)
          have PE : Hid (∀ vs' w9, Appended (wr.alloc (.cells #[.int .i64 sg.1, .int .i64 sg.2] 36)).drew W2.heap.size 36 2 (.slice Al l.length cl) (l.length + 1) (GVs l ++ [.int .i64 sg.1, .int .i64 sg.2]) vs' w9 -> w9.cell? ⟨go, 5, none⟩ = some (.slice Al l.length cl) /\ w9.frozen? ⟨go, 5, none⟩ = false /\ MD W2 go s (.slice Db bt.length db) dz f vs' (l ++ [sg]) (w9.setCell ⟨go, 5, none⟩ vs')) := Lib.hid (fun vs' w9 happ => ha.push happ)
          obtain ⟨ig2, hig, hzg, hsg, hyg⟩ := info_parts info_sgn
          have HIG := Lib.hid (And.intro hig (And.intro hzg (And.intro hsg hyg)))
          have tA : Tag (wr.alloc (.cells #[.int .i64 sg.1, .int .i64 sg.2] 36)).drew := ⟨⟩
          clear hmd ha kA hig hzg hsg hyg hwa hll hms' hms hkt hk hby
          go_upto_region 8 with fail
          go_region_law (first
            | ((with_reducible refine at_tag tA ?_); refine step_append_sh (by rfl) (.tmp 66) (.tmp 81) _ (by rfl) W2.heap.size 36 ig2 _ 2 16 Tryz.underlying37 HIG.out.1 HIG.out.2.1 HIG.out.2.2.1 HIG.out.2.2.2 rfl (by omega) (.slice Al l.length cl) l.length (GVs l) (by rfl) HOW.out.1 (fun _ => False) (.slice (some ⟨wr.heap.size, 0, none⟩) 1 1) 1 [.int .i64 sg.1, .int .i64 sg.2] (by rfl) SA.out HV1.out HN1.out.1 HN1.out.2 HOW.out.2 ?_; intro A9 c9 w9 happ; obtain ⟨j0, j1, hfin⟩ := PE.out _ _ happ; have HFIN := Lib.hid hfin; clear happ hfin))
          all_goals
            go_wp2_with fail
            go_roundw
            case rel => exact ⟨k + 1, by have := HKT.out; omega, by go_num, by rw [HAP.out]; exact ⟨_, HFIN.out⟩⟩
            case measure => have := HKT.out; simp [intOf]; omega
        . have hke : k = ks.length := by omega
          subst hke
          have hkf : decide ((ks.length : Int) < (ks.length : Int)) = false := decide_eq_false (by omega)
          have hl : s.signs.take ks.length = s.signs := List.take_of_length_le (by rw [hs, List.length_map]; exact Nat.le_refl _)
          rw [hl] at hmd
          generalize s.signs.map (sgAt x.ss) = l at *
          obtain ⟨Al, cl, rfl⟩ := own_shape hmd.row
          have o0 := hmd.blk.cell 0
          have o1 := hmd.blk.cell 1
          have o2 := hmd.blk.cell 2
          have o3 := hmd.blk.cell 3
          have o4 := hmd.blk.cell 4
          have o5 := hmd.blk.cell 5
          have o6 := hmd.blk.cell 6
          have hrb := HRS2.out.below hmd.b HRS2.out.lt
          have v0 := hrb.cell 0
          have v1 := hrb.cell 1
          have v2 := hrb.cell 2
          have v3 := hrb.cell 3
          have v4 := hrb.cell 4
          have v5 := hrb.cell 5
          have v6 := hrb.cell 6
          have n0 := hrb.frozen 0
          have n1 := hrb.frozen 1
          have n2 := hrb.frozen 2
          have n3 := hrb.frozen 3
          have n4 := hrb.frozen 4
          have n5 := hrb.frozen 5
          have n6 := hrb.frozen 6
          simp only [List.getElem?_toArray, List.getElem?_cons_zero, List.getElem?_cons_succ] at o0 o1 o2 o3 o4 o5 o6 v0 v1 v2 v3 v4 v5 v6
          have HFIN := Lib.hid (made_end HS.out.hB HB2.out HRS2.out HBI.out hmd)
          have HRB := Lib.hid hrb
          clear hmd hrb hk hkt hl
          go_wp2_with fail
          refine bodyPost_ret (results_row1 rfl _ _ (W.heap.size + 1) 41 #[.int .i64 s.view, .int .i64 s.seq, .int .i64 dz, .int .i64 f.1, .int .i64 f.2, .slice Al l.length cl, .slice Db bt.length db] (0, 0) _ rfl (Pre.blk7 HRB.out) Tryz.underlying41 rfl Pre.size_prep) rfl ?_
          rw [HP0.out]
          exact HFIN.out
    . have hd1 : (s.dig == 0) = false := by rw [beq_eq_false_iff_ne]; exact hd
      rw [if_neg hd] at HP0
      clear hd
      have HMD := Lib.hid hmd
      have p5 := HP5.out _ hmd.b
      clear hmd
      go_wp2_with fail
      clear c2 r2 q5 ci p5
      go_loopw [61] (fun i wr => ∃ k : Nat, k <= ks.length /\ i = .int .i64 k /\ ∃ vs, MD W2 go s (.slice Db bt.length db) s.dig f vs ((s.signs.take k).map (sgAt x.ss)) wr) (fun i _ => ks.length - (intOf i).toNat)
      case atStart => exact ⟨0, Nat.zero_le _, rfl, _, HMD.out⟩
      case round =>
        obtain ⟨k, hk, rfl, vs, hmd⟩ := hrel
        clear HMD
        by_cases hkt : k < ks.length
        . have hkp : (0 : Int) <= (k : Int) := by omega
          have hkn : (k : Int) < (ks.length : Int) := by omega
          have hkd : decide ((k : Int) < (ks.length : Int)) = true := decide_eq_true hkn
          obtain ⟨ad, rfl, ck⟩ := Sl_at (HKW.out _ hmd.b) hkt
          have HSG : Hid (k < s.signs.length /\ s.signs[k]? = some ks[k].toNat) := Lib.hid (by
            have h1 : k < s.signs.length := by rw [hs, List.length_map]; exact hkt
            exact ⟨h1, by rw [hs, List.getElem?_map, List.getElem?_eq_getElem hkt]; rfl⟩)
          have hby : ks[k].toNat < 256 := ks[k].toNat_lt
          have HKT := Lib.hid hkt
          generalize ks[k].toNat = sb at *
          have hms : sb % x.ss.length < x.ss.length := Nat.mod_lt _ (by have := HZ.out.2.2.1; omega)
          have g1 : Int.tmod (sb : Int) (x.ss.length : Int) = ((sb % x.ss.length : Nat) : Int) := by
            rw [Int.tmod_eq_emod_of_nonneg (by omega)]
            omega
          have hwa := HS2.out.later (hmd.b.trans (((Below.refl _ wr).alloc (Nat.le_refl _) (.cells #[.int .i64 x.ss[sb % x.ss.length].1, .int .i64 x.ss[sb % x.ss.length].2] 36)).mono hmd.b.size))
          obtain ⟨ax, has, cs0, cs1⟩ := (HS2.out.later hmd.b).sign hms
          injection has with has
          subst has
          have hxg : sgAt x.ss sb = x.ss[sb % x.ss.length]'hms := by
            rw [sgAt, List.getElem?_eq_getElem hms]
            rfl
          rw [<- hxg] at cs0 cs1 hwa
          have HAP : Hid ((s.signs.take (k + 1)).map (sgAt x.ss) = (s.signs.take k).map (sgAt x.ss) ++ [sgAt x.ss sb]) := Lib.hid (by
            rw [List.take_succ_eq_append_getElem HSG.out.1, List.map_append]
            have := HSG.out.2
            rw [List.getElem?_eq_getElem HSG.out.1] at this
            rw [Option.some.inj this]
            rfl)
          have hll : ((s.signs.take k).map (sgAt x.ss)).length = k := by
            rw [List.length_map, List.length_take]
            have := HSG.out.1
            omega
          clear hxg
          generalize hms' : sb % x.ss.length = ms at *
          generalize sgAt x.ss sb = sg at *
          generalize (s.signs.take k).map (sgAt x.ss) = l at *
          have g2 : (ms : Int) < (x.ss.length : Int) := by omega
          have g4 : (sb : Int) < 256 := by omega
          have g6 : (0 : Int) <= (ms : Int) := by omega
          have g9 : IntKind.i64.wrap (sb : Int) = (sb : Int) := Ga.wrap64 (by omega) (by omega)
          obtain ⟨Al, cl, rfl⟩ := own_shape hmd.row
          have q6 := (HS2.out.later hmd.b).st.cell 6
          have a6 : (wr.alloc (.cells #[.int .i64 sg.1, .int .i64 sg.2] 36)).drew.cell? ⟨q, 6, none⟩ = some (.slice (some ag) x.ss.length cg) := hwa.st.cell 6
          have o5 := hmd.blk.cell 5
          have ha := (hmd.later ((Below.refl _ wr).alloc (Nat.le_refl _) (.cells #[.int .i64 sg.1, .int .i64 sg.2] 36))).later (below_drewN (Below.refl _ _) 1)
          have b5 : (wr.alloc (.cells #[.int .i64 sg.1, .int .i64 sg.2] 36)).drew.cell? ⟨go, 5, none⟩ = some (.slice Al l.length cl) := ha.blk.cell 5
          simp only [SB, List.getElem?_toArray, List.getElem?_cons_zero, List.getElem?_cons_succ] at q6 o5
          have kA : Blk (wr.alloc (.cells #[.int .i64 sg.1, .int .i64 sg.2] 36)).drew wr.heap.size 36 #[.int .i64 sg.1, .int .i64 sg.2] := Blk.new wr _ _
          have SA : Hid (Sl (wr.alloc (.cells #[.int .i64 sg.1, .int .i64 sg.2] 36)).drew (fun _ => False) 2 (.slice (some ⟨wr.heap.size, 0, none⟩) 1 1) 1 [.int .i64 sg.1, .int .i64 sg.2]) := Lib.hid (two_cell _ _ _ _ kA (fun h => h))
          have HOW : Hid ((wr.alloc (.cells #[.int .i64 sg.1, .int .i64 sg.2] 36)).drew.ownsRow W2.heap.size 36 2 (.slice Al l.length cl) l.length (GVs l) /\ W2.heap.size <= (wr.alloc (.cells #[.int .i64 sg.1, .int .i64 sg.2] 36)).drew.heap.size) := Lib.hid ⟨ha.row, ha.b.size⟩
          have HV1 : Hid (∀ u ∈ [(Value.int .i64 sg.1), .int .i64 sg.2], u.oneCell' = true) := Lib.hid (fun u hu => by
            simp only [List.mem_cons, List.not_mem_nil, or_false] at hu
            rcases hu with rfl | rfl <;> rfl)
          have HN1 : Hid (l.length + 1 <= maxLen /\ (l.length + 1) * 16 <= 140737488355328) := Lib.hid (by
            have := HZ.out.2.2.2.2.2
            simp only [maxLen]
            omega)
          have PE : Hid (∀ vs' w9, Appended (wr.alloc (.cells #[.int .i64 sg.1, .int .i64 sg.2] 36)).drew W2.heap.size 36 2 (.slice Al l.length cl) (l.length + 1) (GVs l ++ [.int .i64 sg.1, .int .i64 sg.2]) vs' w9 -> w9.cell? ⟨go, 5, none⟩ = some (.slice Al l.length cl) /\ w9.frozen? ⟨go, 5, none⟩ = false /\ MD W2 go s (.slice Db bt.length db) s.dig f vs' (l ++ [sg]) (w9.setCell ⟨go, 5, none⟩ vs')) := Lib.hid (fun vs' w9 happ => ha.push happ)
          obtain ⟨ig2, hig, hzg, hsg, hyg⟩ := info_parts info_sgn
          have HIG := Lib.hid (And.intro hig (And.intro hzg (And.intro hsg hyg)))
          have tA : Tag (wr.alloc (.cells #[.int .i64 sg.1, .int .i64 sg.2] 36)).drew := ⟨⟩
          clear hmd ha kA hig hzg hsg hyg hwa hll hms' hms hkt hk hby
          go_upto_region 8 with fail
          go_region_law (first
            | ((with_reducible refine at_tag tA ?_); refine step_append_sh (by rfl) (.tmp 66) (.tmp 81) _ (by rfl) W2.heap.size 36 ig2 _ 2 16 Tryz.underlying37 HIG.out.1 HIG.out.2.1 HIG.out.2.2.1 HIG.out.2.2.2 rfl (by omega) (.slice Al l.length cl) l.length (GVs l) (by rfl) HOW.out.1 (fun _ => False) (.slice (some ⟨wr.heap.size, 0, none⟩) 1 1) 1 [.int .i64 sg.1, .int .i64 sg.2] (by rfl) SA.out HV1.out HN1.out.1 HN1.out.2 HOW.out.2 ?_; intro A9 c9 w9 happ; obtain ⟨j0, j1, hfin⟩ := PE.out _ _ happ; have HFIN := Lib.hid hfin; clear happ hfin))
          all_goals
            go_wp2_with fail
            go_roundw
            case rel => exact ⟨k + 1, by have := HKT.out; omega, by go_num, by rw [HAP.out]; exact ⟨_, HFIN.out⟩⟩
            case measure => have := HKT.out; simp [intOf]; omega
        . have hke : k = ks.length := by omega
          subst hke
          have hkf : decide ((ks.length : Int) < (ks.length : Int)) = false := decide_eq_false (by omega)
          have hl : s.signs.take ks.length = s.signs := List.take_of_length_le (by rw [hs, List.length_map]; exact Nat.le_refl _)
          rw [hl] at hmd
          generalize s.signs.map (sgAt x.ss) = l at *
          obtain ⟨Al, cl, rfl⟩ := own_shape hmd.row
          have o0 := hmd.blk.cell 0
          have o1 := hmd.blk.cell 1
          have o2 := hmd.blk.cell 2
          have o3 := hmd.blk.cell 3
          have o4 := hmd.blk.cell 4
          have o5 := hmd.blk.cell 5
          have o6 := hmd.blk.cell 6
          have hrb := HRS2.out.below hmd.b HRS2.out.lt
          have v0 := hrb.cell 0
          have v1 := hrb.cell 1
          have v2 := hrb.cell 2
          have v3 := hrb.cell 3
          have v4 := hrb.cell 4
          have v5 := hrb.cell 5
          have v6 := hrb.cell 6
          have n0 := hrb.frozen 0
          have n1 := hrb.frozen 1
          have n2 := hrb.frozen 2
          have n3 := hrb.frozen 3
          have n4 := hrb.frozen 4
          have n5 := hrb.frozen 5
          have n6 := hrb.frozen 6
          simp only [List.getElem?_toArray, List.getElem?_cons_zero, List.getElem?_cons_succ] at o0 o1 o2 o3 o4 o5 o6 v0 v1 v2 v3 v4 v5 v6
          have HFIN := Lib.hid (made_end HS.out.hB HB2.out HRS2.out HBI.out hmd)
          have HRB := Lib.hid hrb
          clear hmd hrb hk hkt hl
          go_wp2_with fail
          refine bodyPost_ret (results_row1 rfl _ _ (W.heap.size + 1) 41 #[.int .i64 s.view, .int .i64 s.seq, .int .i64 s.dig, .int .i64 f.1, .int .i64 f.2, .slice Al l.length cl, .slice Db bt.length db] (0, 0) _ rfl (Pre.blk7 HRB.out) Tryz.underlying41 rfl Pre.size_prep) rfl ?_
          rw [HP0.out]
          exact HFIN.out
end Go.Proofs.YtmhmnkpaijoaaaaGreat.Psv
