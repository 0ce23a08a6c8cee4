/-
  Layer 9 (block): the walk of the statement BlockNone.
-/
import Derived.Test.YtobphijbhghgmaaGreatO16
import Derived.Deep.DeepCutAuto
namespace Go.Proofs.YtobphijbhghgmaaGreat.Zv
set_option linter.unusedSimpArgs false
open Go Go.RowKit Ck Kw Ga Kf Pm Pe Qb Tm Tn Tq Ik Aa Ja Jd Jm Jb Jn Ma Za Zb Ze Zt Zc Zg Zh Zi Zj Zk Zl Zm Zn Zo Zp Zs
open Im (num isIn add sum)
attribute [local go_sem ↓] Go.wp_at_zero Go.wp_at_succ
set_option linter.unusedVariables false
set_option maxRecDepth 100000

/-- A header, two pointers, and what the second one points to. -/
structure NK (w0 : World) (h : H) (gs p : Nat) (pt ty : TypeId) (z : Array Value) (W : World) : Prop where
  kh : KH w0 h W
  arr : Blk W gs pt #[.pointer none, .pointer (some ⟨p, 0, none⟩)]
  zero : Blk W p ty z
theorem NK.later {w0 W W' : World} {h : H} {gs p : Nat} {pt ty : TypeId} {z : Array Value} (k : NK w0 h gs p pt ty z W) (b : Below W.heap.size W W') : NK w0 h gs p pt ty z W' := ⟨k.kh.later b, k.arr.below b k.arr.lt, k.zero.below b k.zero.lt⟩
theorem NK.at_ {w0 W : World} {h : H} {gs p : Nat} {pt ty : TypeId} {z : Array Value} (k : NK w0 h gs p pt ty z W) {i : Nat} (hi : i < 2) : ∃ o, W.cell? ⟨gs, i, none⟩ = some (.pointer o) ∧ (o = none ∨ o = some ⟨p, 0, none⟩) := by
  have : i = 0 ∨ i = 1 := by omega
  rcases this with rfl | rfl
  · exact ⟨_, k.arr.cell 0, .inl rfl⟩
  · exact ⟨_, k.arr.cell 1, .inr rfl⟩
theorem NK.tab {w0 W : World} {h : H} {gs p : Nat} {pt : TypeId} {o : Option Addr} (k : NK w0 h gs p pt 58 #[.map none, .slice none 0 0] W) (ho : o = none ∨ o = some ⟨p, 0, none⟩) : Nc.Un W (.pointer o) := by
  rcases ho with rfl | rfl
  · exact .inl rfl
  · exact .inr ⟨p, _, rfl, k.zero⟩
theorem NK.top {w0 W : World} {h : H} {gs p : Nat} {pt : TypeId} {o : Option Addr} {l : List Value} (k : NK w0 h gs p pt 74 (.map none :: l).toArray W) (ho : o = none ∨ o = some ⟨p, 0, none⟩) : Aa.Un W (.pointer o) := by
  rcases ho with rfl | rfl
  · exact .inl rfl
  · exact .inr ⟨p, _, rfl, k.zero⟩
theorem nk_new {w0 W : World} {h : H} {pt ty : TypeId} {z : Array Value} (k : KH w0 h W) : NK w0 h (W.heap.size + 1) W.heap.size pt ty z ((W.alloc (.cells z ty)).alloc (.cells #[.pointer none, .pointer (some ⟨W.heap.size, 0, none⟩)] pt)) :=
  ⟨k.later ((op_below W _).trans ((op_below _ _).mono (by simp))), Blk.new_at (by simp) rfl, Blk.alloc (Blk.new W _ _) _⟩

theorem NK.set5 {w0 W : World} {h : H} {gs p : Nat} {pt ty : TypeId} {z : Array Value} (k : NK w0 h gs p pt ty z W) {B g : Nat} (hB : B ≤ g) (h1 : gs < B) (h2 : p < B) (h3 : w0.heap.size < B) {x0 x1 x2 x3 x4 : Value} :
    NK w0 h gs p pt ty z (((((W.setCell ⟨g, 0, none⟩ x0).setCell ⟨g, 1, none⟩ x1).setCell ⟨g, 2, none⟩ x2).setCell ⟨g, 3, none⟩ x3).setCell ⟨g, 4, none⟩ x4) := by
  have f : ∀ {q : Nat} {ty : TypeId} {cs : Array Value}, q < B → Blk W q ty cs → Blk (((((W.setCell ⟨g, 0, none⟩ x0).setCell ⟨g, 1, none⟩ x1).setCell ⟨g, 2, none⟩ x2).setCell ⟨g, 3, none⟩ x3).setCell ⟨g, 4, none⟩ x4) q ty cs := fun {q ty cs} hq hb => by
    have hne : q ≠ g := by omega
    exact ((((hb.far hne _).far hne _).far hne _).far hne _).far hne _
  exact ⟨⟨zero5 k.kh.below (by omega), f h3 k.kh.one⟩, f h1 k.arr, f h2 k.zero⟩
theorem blk_drew {W : World} {q : Nat} {ty : TypeId} {cs : Array Value} (h : Blk W q ty cs) : Blk W.drew q ty cs := h
theorem NK.drew {w0 W : World} {h : H} {gs p : Nat} {pt ty : TypeId} {z : Array Value} (k : NK w0 h gs p pt ty z W) : NK w0 h gs p pt ty z W.drew := k.later (below_drewN (Below.refl _ W) 1)
theorem NK.alloc {w0 W : World} {h : H} {gs p : Nat} {pt ty : TypeId} {z : Array Value} (k : NK w0 h gs p pt ty z W) (o : Obj) : NK w0 h gs p pt ty z (W.alloc o) := k.later (op_below W o)
theorem NK.lts {w0 W : World} {h : H} {gs p : Nat} {pt ty : TypeId} {z : Array Value} (k : NK w0 h gs p pt ty z W) : gs < W.heap.size ∧ p < W.heap.size ∧ w0.heap.size < W.heap.size := ⟨k.arr.lt, k.zero.lt, k.kh.one.lt⟩

set_option maxHeartbeats 32000000 in
theorem blocknone_any (w : World) (h : H) (vb : Value) :
    Calls Tryz.prog 6 #[HV h, vb] w fun e w' => e = .returned (.bool true) ∧ Below w.heap.size w w' := by
  have HK0 := Lib.hid (kh_new w h)
  have HDU := Lib.hid fun (W : World) (o : Option Addr) (k : Nc.Un W (.pointer o)) => digest_un W o h k
  have HGU := Lib.hid genesis_un
  have HXU := Lib.hid fun (W : World) (o : Option Addr) (vt : Value) (k : Nc.Un W (.pointer o)) => exec_un W o vt vb h k
  have HXT := Lib.hid fun (W : World) (p : Nat) (vt : Value) (hP : ∃ S, Tb W S p []) (k : Aa.Un W vt) => exec_nt W _ p [] vt vb h hP.choose_spec k
  have HCU := Lib.hid chain_un
  unfold HV at *
  unfold HC at *
  simp only [H.zero] at HGU HXU HXT
  go_enter Tryz.func6, Tryz.ntmps6
  go_wp2_with fail
  generalize w.alloc (.cells #[.int .i64 h.seq, .int .i64 h.prev, .int .i64 h.batch, .int .i64 h.root, .int .i64 h.state] 24) = w0 at *
  refine (live_any w0).mono ?_
  rintro e w1 ⟨rfl, hb1⟩
  have HK1 := Lib.hid (HK0.out.later hb1)
  clear hb1 HK0
  have HN1 := Lib.hid (nk_new (pt := 34) (ty := 58) (z := #[.map none, .slice none 0 0]) HK1.out)
  clear HK1
  go_wp2_with fail
  generalize hwl : (w1.alloc (.cells #[.map none, .slice none 0 0] 58)).alloc (.cells #[.pointer none, .pointer (some ⟨w1.heap.size, 0, none⟩)] 34) = wl at *
  clear hwl
  generalize w1.heap.size + 1 = gs at *
  generalize w1.heap.size = g1 at *
  go_loopw [27] (fun j wr => ∃ i : Nat, i ≤ 2 ∧ j = .int .i64 i ∧ NK w h gs g1 34 58 #[.map none, .slice none 0 0] wr) (fun j _ => 2 - (intOf j).toNat)
  case atStart => exact ⟨0, by omega, rfl, HN1.out⟩
  case round =>
    obtain ⟨i, hi, rfl, hn⟩ := hrel
    have HN := Lib.hid hn
    clear hn HN1
    by_cases hlt : i < 2
    · obtain ⟨o, a0, ho⟩ := HN.out.at_ hlt
      have HO := Lib.hid ho
      have hin : (i : Int) < 2 := by omega
      obtain ⟨⟨h0, h1, h2, h3, h4⟩, -⟩ := Blk.cells5 HN.out.kh.one
      have HD := Lib.hid (HDU.out wr o (HN.out.tab ho))
      clear ho
      go_wp2_with fail
      refine HD.out.mono ?_
      rintro e w2 ⟨rfl, hb2⟩
      have HN2 := Lib.hid (HN.out.later hb2)
      have HG := Lib.hid (HGU.out w2 o (HN2.out.tab HO.out))
      clear hb2 HN HD h0 h1 h2 h3 h4 a0
      go_wp2_with fail
      refine HG.out.mono ?_
      rintro e w3 ⟨rfl, hb3⟩
      have hb4 := hb3.trans ((op_below w3 (.cells #[.int .i64 0, .int .i64 0, .int .i64 0, .int .i64 0, .int .i64 0] 24)).mono hb3.size)
      have HN4 := Lib.hid (HN2.out.later hb4)
      clear hb3 hb4 HN2 HG
      obtain ⟨⟨h0, h1, h2, h3, h4⟩, -⟩ := Blk.cells5 HN4.out.kh.one
      go_wp2_with fail
      generalize w3.alloc (.cells #[.int .i64 0, .int .i64 0, .int .i64 0, .int .i64 0, .int .i64 0] 24) = w4 at *
      go_upto_region 8 with fail
      go_cut [11, 12, 13, 14] (fun s11 s12 s13 s14 wx => s14 = .int .i64 2 ∧ NK w h gs g1 34 58 #[.map none, .slice none 0 0] wx)
      case first =>
        obtain ⟨l1, l2, l3⟩ := HN4.out.lts
        go_region_held3 (fun w' => w'.cell? ⟨w.heap.size, 0, none⟩ = some (.int .i64 h.seq) ∧ w'.cell? ⟨w.heap.size, 1, none⟩ = some (.int .i64 h.prev) ∧ w'.cell? ⟨w.heap.size, 2, none⟩ = some (.int .i64 h.batch) ∧ w'.cell? ⟨w.heap.size, 3, none⟩ = some (.int .i64 h.root) ∧ w'.cell? ⟨w.heap.size, 4, none⟩ = some (.int .i64 h.state)) (first | with_reducible exact ⟨h0, h1, h2, h3, h4⟩ | with_reducible exact ⟨b0, b1, b2, b3, b4⟩ | with_reducible exact ⟨k0, k1, k2, k3, k4⟩ | (go_keep; done) | with_reducible exact T5 _ hs5 _ _ _ _ _ | with_reducible exact T5 _ (Nat.le_refl _) _ _ _ _ _)
          (first
            | (go_at_call 25; refine (Ab.new_any _).mono ?_; rintro e w5 ⟨t, rfl, hz5', hb5⟩; have hn5 : NK w h gs g1 34 58 #[.map none, .slice none 0 0] w5 := (by refine NK.later ?_ hb5; first | with_reducible exact NK.alloc (NK.drew HN4.out) _ | with_reducible exact NK.drew HN4.out | with_reducible exact NK.drew (NK.alloc HN4.out _) | with_reducible exact NK.alloc HN4.out _ | with_reducible exact HN4.out); have hs5 : w4.heap.size ≤ w5.heap.size := (by have q := hb5.size; (try simp at q); omega); have P5 := fun (q : Nat) (ty : TypeId) (cs : Array Value) (hq : Blk _ q ty cs) => Blk.below hq hb5 (Blk.lt hq); (try (with_reducible (have e5' := P5 _ _ _ (Blk.new w4.drew 24 #[.int .i64 0, .int .i64 0, .int .i64 0, .int .i64 0, .int .i64 0])))); (try (with_reducible (have e5' := P5 _ _ _ (Blk.new w4 24 #[.int .i64 0, .int .i64 0, .int .i64 0, .int .i64 0, .int .i64 0])))); (try (with_reducible (have e5' := P5 _ _ _ (blk_drew (Blk.new w4 24 #[.int .i64 0, .int .i64 0, .int .i64 0, .int .i64 0, .int .i64 0]))))); (try (have e5 : Blk w5 w4.heap.size 24 #[.int .i64 0, .int .i64 0, .int .i64 0, .int .i64 0, .int .i64 0] := e5')); obtain ⟨⟨b0, b1, b2, b3, b4⟩, -⟩ := Blk.cells5 hn5.kh.one)
            | (go_at_call 24; refine Calls.mono (HXU.out _ _ _ (NK.tab (w0 := w) (h := h) (gs := gs) (p := g1) (pt := 34) ?_ HO.out)) ?_; (first | with_reducible exact hn5 | with_reducible exact NK.alloc hn5 _ | with_reducible exact NK.drew hn5 | with_reducible exact NK.alloc (NK.drew hn5) _ | with_reducible exact NK.drew (NK.alloc hn5 _)); rintro e w6 ⟨rfl, hb6⟩; have hn6 : NK w h gs g1 34 58 #[.map none, .slice none 0 0] w6 := (by refine NK.later ?_ hb6; first | with_reducible exact hn5 | with_reducible exact NK.alloc hn5 _ | with_reducible exact NK.drew hn5 | with_reducible exact NK.alloc (NK.drew hn5) _ | with_reducible exact NK.drew (NK.alloc hn5 _)); have hs6 : w5.heap.size ≤ w6.heap.size := (by have q := hb6.size; (try simp at q); omega); have P6 := fun (q : Nat) (ty : TypeId) (cs : Array Value) (hq : Blk _ q ty cs) => Blk.below hq hb6 (Blk.lt hq); (try (with_reducible (have e6 := P6 _ _ _ (Blk.new w5 24 #[.int .i64 0, .int .i64 0, .int .i64 0, .int .i64 0, .int .i64 0]); obtain ⟨⟨z0, z1, z2, z3, z4⟩, ⟨f0, f1, f2, f3, f4⟩⟩ := Blk.cells5 e6))); (try (with_reducible (have e6 := P6 _ _ _ e5; obtain ⟨⟨z0, z1, z2, z3, z4⟩, ⟨f0, f1, f2, f3, f4⟩⟩ := Blk.cells5 e6))); obtain ⟨⟨k0, k1, k2, k3, k4⟩, -⟩ := Blk.cells5 hn6.kh.one; have T5 := fun (g : Nat) (hg : w4.heap.size ≤ g) (x0 x1 x2 x3 x4 : Value) => (Blk.cells5 (NK.set5 (g := g) (x0 := x0) (x1 := x1) (x2 := x2) (x3 := x3) (x4 := x4) hn6 hg l1 l2 l3).kh.one).1))
        all_goals
          go_wp2_with fail
          go_meet
          refine ⟨rfl, ?_⟩
          first
            | with_reducible exact NK.set5 hn6 (B := w4.heap.size) (by omega) l1 l2 l3
            | with_reducible exact NK.set5 (NK.alloc hn6 _) (B := w4.heap.size) (by omega) l1 l2 l3
            | with_reducible exact NK.alloc hn6 _
      case rest =>
        obtain ⟨rfl, hn7⟩ := hcut
        have HN7 := Lib.hid hn7
        clear hn7
        obtain ⟨⟨h0, h1, h2, h3, h4⟩, -⟩ := Blk.cells5 HN7.out.kh.one
        have hb8 := op_below wc (.cells #[.int .i64 h.seq, .int .i64 h.prev, .int .i64 h.batch, .int .i64 h.root, .int .i64 h.state] 24)
        have HN8 := Lib.hid (HN7.out.later hb8)
        have HCN := Lib.hid (HCU.out (wc.alloc (.cells #[.int .i64 h.seq, .int .i64 h.prev, .int .i64 h.batch, .int .i64 h.root, .int .i64 h.state] 24)) o (.slice (some ⟨wc.heap.size, 0, none⟩) 1 1) (HN8.out.tab HO.out))
        go_wp2_with fail
        refine HCN.out.mono ?_
        rintro e w9 ⟨rfl, hb9⟩
        have HN9 := Lib.hid (HN8.out.later hb9)
        clear hb8 hb9 HN8 HCN HN7 h0 h1 h2 h3 h4
        go_wp2_with fail
        go_roundw
        case rel =>
          exact ⟨i + 1, by omega, by go_num, HN9.out⟩
        case measure => simp [intOf]; omega
    · have hke : i = 2 := by omega
      subst hke
      clear hi hlt
      have HT1 := Lib.hid (nk_new (pt := 65) (ty := 74) (z := #[.map none, .int .i64 0, .int .i64 0, .int .i64 0, .int .i64 0, .int .i64 0, .int .i64 0, .int .i64 0, .int .i64 0, .int .i64 0, .int .i64 0, .int .i64 0, .int .i64 0, .int .i64 0, .int .i64 0, .int .i64 0, .int .i64 0, .int .i64 0, .int .i64 0, .int .i64 0, .int .i64 0, .int .i64 0, .int .i64 0, .int .i64 0, .int .i64 0]) HN.out.kh)
      clear HN
      go_wp2_with fail
      generalize hwt : (wr.alloc (.cells #[.map none, .int .i64 0, .int .i64 0, .int .i64 0, .int .i64 0, .int .i64 0, .int .i64 0, .int .i64 0, .int .i64 0, .int .i64 0, .int .i64 0, .int .i64 0, .int .i64 0, .int .i64 0, .int .i64 0, .int .i64 0, .int .i64 0, .int .i64 0, .int .i64 0, .int .i64 0, .int .i64 0, .int .i64 0, .int .i64 0, .int .i64 0, .int .i64 0] 74)).alloc (.cells #[.pointer none, .pointer (some ⟨wr.heap.size, 0, none⟩)] 65) = wt at *
      clear hwt
      generalize wr.heap.size + 1 = gs2 at *
      generalize wr.heap.size = g2 at *
      go_loopw [73] (fun j wr => ∃ i : Nat, i ≤ 2 ∧ j = .int .i64 i ∧ NK w h gs2 g2 65 74 #[.map none, .int .i64 0, .int .i64 0, .int .i64 0, .int .i64 0, .int .i64 0, .int .i64 0, .int .i64 0, .int .i64 0, .int .i64 0, .int .i64 0, .int .i64 0, .int .i64 0, .int .i64 0, .int .i64 0, .int .i64 0, .int .i64 0, .int .i64 0, .int .i64 0, .int .i64 0, .int .i64 0, .int .i64 0, .int .i64 0, .int .i64 0, .int .i64 0] wr) (fun j _ => 2 - (intOf j).toNat)
      case atStart => exact ⟨0, by omega, rfl, HT1.out⟩
      case round =>
        obtain ⟨i, hi, rfl, hn⟩ := hrel
        have HN := Lib.hid hn
        clear hn HT1
        by_cases hlt : i < 2
        · obtain ⟨o, a0, ho⟩ := HN.out.at_ hlt
          have HO := Lib.hid ho
          have hin : (i : Int) < 2 := by omega
          obtain ⟨⟨h0, h1, h2, h3, h4⟩, -⟩ := Blk.cells5 HN.out.kh.one
          clear ho
          go_upto_region 15 with fail
          go_cut [17, 18, 19, 20] (fun s17 s18 s19 s20 wx => s20 = .int .i64 2 ∧ NK w h gs2 g2 65 74 #[.map none, .int .i64 0, .int .i64 0, .int .i64 0, .int .i64 0, .int .i64 0, .int .i64 0, .int .i64 0, .int .i64 0, .int .i64 0, .int .i64 0, .int .i64 0, .int .i64 0, .int .i64 0, .int .i64 0, .int .i64 0, .int .i64 0, .int .i64 0, .int .i64 0, .int .i64 0, .int .i64 0, .int .i64 0, .int .i64 0, .int .i64 0, .int .i64 0] wx)
          case first =>
            obtain ⟨l1, l2, l3⟩ := HN.out.lts
            go_region_held3 (fun w' => w'.cell? ⟨w.heap.size, 0, none⟩ = some (.int .i64 h.seq) ∧ w'.cell? ⟨w.heap.size, 1, none⟩ = some (.int .i64 h.prev) ∧ w'.cell? ⟨w.heap.size, 2, none⟩ = some (.int .i64 h.batch) ∧ w'.cell? ⟨w.heap.size, 3, none⟩ = some (.int .i64 h.root) ∧ w'.cell? ⟨w.heap.size, 4, none⟩ = some (.int .i64 h.state)) (first | with_reducible exact ⟨h0, h1, h2, h3, h4⟩ | with_reducible exact ⟨b0, b1, b2, b3, b4⟩ | with_reducible exact ⟨k0, k1, k2, k3, k4⟩ | (go_keep; done) | with_reducible exact T5 _ hs5 _ _ _ _ _ | with_reducible exact T5 _ (Nat.le_refl _) _ _ _ _ _)
              (first
                | (go_at_call 13; refine (Ib.newtable_any _).mono ?_; rintro e w5 ⟨t, rfl, ht5, hb5⟩; have hn5 : NK w h gs2 g2 65 74 #[.map none, .int .i64 0, .int .i64 0, .int .i64 0, .int .i64 0, .int .i64 0, .int .i64 0, .int .i64 0, .int .i64 0, .int .i64 0, .int .i64 0, .int .i64 0, .int .i64 0, .int .i64 0, .int .i64 0, .int .i64 0, .int .i64 0, .int .i64 0, .int .i64 0, .int .i64 0, .int .i64 0, .int .i64 0, .int .i64 0, .int .i64 0, .int .i64 0] w5 := (by refine NK.later ?_ hb5; first | with_reducible exact NK.alloc (NK.drew HN.out) _ | with_reducible exact NK.drew HN.out | with_reducible exact NK.drew (NK.alloc HN.out _) | with_reducible exact NK.alloc HN.out _ | with_reducible exact HN.out); have hs5 : wr.heap.size ≤ w5.heap.size := (by have q := hb5.size; (try simp at q); omega); have P5 := fun (q : Nat) (ty : TypeId) (cs : Array Value) (hq : Blk _ q ty cs) => Blk.below hq hb5 (Blk.lt hq); (try (with_reducible (have e5' := P5 _ _ _ (Blk.new wr.drew 24 #[.int .i64 0, .int .i64 0, .int .i64 0, .int .i64 0, .int .i64 0])))); (try (with_reducible (have e5' := P5 _ _ _ (Blk.new wr 24 #[.int .i64 0, .int .i64 0, .int .i64 0, .int .i64 0, .int .i64 0])))); (try (with_reducible (have e5' := P5 _ _ _ (blk_drew (Blk.new wr 24 #[.int .i64 0, .int .i64 0, .int .i64 0, .int .i64 0, .int .i64 0]))))); (try (have e5 : Blk w5 wr.heap.size 24 #[.int .i64 0, .int .i64 0, .int .i64 0, .int .i64 0, .int .i64 0] := e5')); obtain ⟨⟨b0, b1, b2, b3, b4⟩, -⟩ := Blk.cells5 hn5.kh.one)
                | (go_at_call 24; refine Calls.mono (HXT.out _ _ _ ?_ (NK.top (w0 := w) (h := h) (gs := gs2) (p := g2) (pt := 65) (l := [.int .i64 0, .int .i64 0, .int .i64 0, .int .i64 0, .int .i64 0, .int .i64 0, .int .i64 0, .int .i64 0, .int .i64 0, .int .i64 0, .int .i64 0, .int .i64 0, .int .i64 0, .int .i64 0, .int .i64 0, .int .i64 0, .int .i64 0, .int .i64 0, .int .i64 0, .int .i64 0, .int .i64 0, .int .i64 0, .int .i64 0, .int .i64 0]) ?_ HO.out)) ?_; (first | with_reducible exact ⟨_, ht5⟩ | with_reducible exact ⟨_, Tb.after ht5 (op_below w5 _)⟩ | with_reducible exact ⟨_, Tb.drewN ht5 1⟩); (first | with_reducible exact hn5 | with_reducible exact NK.alloc hn5 _ | with_reducible exact NK.drew hn5 | with_reducible exact NK.alloc (NK.drew hn5) _ | with_reducible exact NK.drew (NK.alloc hn5 _)); rintro e w6 ⟨rfl, hb6⟩; have hn6 : NK w h gs2 g2 65 74 #[.map none, .int .i64 0, .int .i64 0, .int .i64 0, .int .i64 0, .int .i64 0, .int .i64 0, .int .i64 0, .int .i64 0, .int .i64 0, .int .i64 0, .int .i64 0, .int .i64 0, .int .i64 0, .int .i64 0, .int .i64 0, .int .i64 0, .int .i64 0, .int .i64 0, .int .i64 0, .int .i64 0, .int .i64 0, .int .i64 0, .int .i64 0, .int .i64 0] w6 := (by refine NK.later ?_ hb6; first | with_reducible exact hn5 | with_reducible exact NK.alloc hn5 _ | with_reducible exact NK.drew hn5 | with_reducible exact NK.alloc (NK.drew hn5) _ | with_reducible exact NK.drew (NK.alloc hn5 _)); have hs6 : w5.heap.size ≤ w6.heap.size := (by have q := hb6.size; (try simp at q); omega); have P6 := fun (q : Nat) (ty : TypeId) (cs : Array Value) (hq : Blk _ q ty cs) => Blk.below hq hb6 (Blk.lt hq); (try (with_reducible (have e6 := P6 _ _ _ (Blk.new w5 24 #[.int .i64 0, .int .i64 0, .int .i64 0, .int .i64 0, .int .i64 0]); obtain ⟨⟨z0, z1, z2, z3, z4⟩, ⟨f0, f1, f2, f3, f4⟩⟩ := Blk.cells5 e6))); (try (with_reducible (have e6 := P6 _ _ _ e5; obtain ⟨⟨z0, z1, z2, z3, z4⟩, ⟨f0, f1, f2, f3, f4⟩⟩ := Blk.cells5 e6))); obtain ⟨⟨k0, k1, k2, k3, k4⟩, -⟩ := Blk.cells5 hn6.kh.one; have T5 := fun (g : Nat) (hg : wr.heap.size ≤ g) (x0 x1 x2 x3 x4 : Value) => (Blk.cells5 (NK.set5 (g := g) (x0 := x0) (x1 := x1) (x2 := x2) (x3 := x3) (x4 := x4) hn6 hg l1 l2 l3).kh.one).1))
            all_goals
              go_wp2_with fail
              go_meet
              refine ⟨rfl, ?_⟩
              first
                | with_reducible exact NK.set5 hn6 (B := wr.heap.size) (by omega) l1 l2 l3
                | with_reducible exact NK.set5 (NK.alloc hn6 _) (B := wr.heap.size) (by omega) l1 l2 l3
                | with_reducible exact NK.alloc hn6 _
          case rest =>
            obtain ⟨rfl, hn7⟩ := hcut
            have HN7 := Lib.hid hn7
            clear hn7 h0 h1 h2 h3 h4
            go_wp2_with fail
            go_roundw
            case rel => exact ⟨i + 1, by omega, by go_num, HN7.out⟩
            case measure => simp [intOf]; omega
        · have hke : i = 2 := by omega
          subst hke
          go_wp2_with fail
          go_ret
          exact ⟨rfl, HN.out.kh.below⟩
end Go.Proofs.YtobphijbhghgmaaGreat.Zv
