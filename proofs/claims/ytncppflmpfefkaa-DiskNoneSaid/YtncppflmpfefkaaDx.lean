/-
  The walk of the statement DiskNone: a disk that no call made; bytes are nobody else's.
-/
import Derived.Test.YtncppflmpfefkaaDv
namespace Go.Proofs.Ytncppflmpfefkaa.Dx
open Go Go.RowKit Go.Maps Ck Kw Ga Dm Dw Da Db Dc Dd De Df Dg Dh Di Dj Dn Dv
attribute [local go_sem ↓] Go.wp_at_zero Go.wp_at_succ
set_option linter.unusedVariables false

/-- Blocks from B on, but those of a zone. -/
def Zn (B a b : Nat) (W : World) (k : Nat) : Prop := B ≤ k ∧ ¬ (a ≤ k ∧ k < b) ∧ k < W.heap.size
/-- A disk of these files in such blocks. -/
def Lz (w : World) (a b : Nat) (W : World) (p : Nat) (L : List Fl) (room : Nat) (off : Bool) : Prop := Dk W (Zn w.heap.size a b W) p L room off ∧ Below w.heap.size w W ∧ b ≤ W.heap.size
theorem lz_did {w W W' : World} {a b p : Nat} {r : List Fl × Nat} {room : Nat} {off off' : Bool} {L : List Fl} {e : Ending} (h : Lz w a b W p L room off) (hd : Did (Zn w.heap.size a b W) p r room off' W e W') : e = .returned (.int .i64 (r.2 : Int)) ∧ Lz w a b W' p r.1 room off' := by
  obtain ⟨he, hk, hc⟩ := hd
  have h1 := h.2.1.size
  have h2 := hc.size
  have h3 := h.2.2
  refine ⟨he, hk.weaken (fun k hk => ?_), h.2.1.trans (hc.below (fun k hk hn => by have := hn.1; omega) h1), by omega⟩
  rcases hk with ⟨g1, g2, g3⟩ | ⟨g1, g2⟩
  · exact ⟨g1, g2, by omega⟩
  · exact ⟨by omega, by omega, g2⟩
theorem lz_ch {w W W' : World} {a b p : Nat} {room : Nat} {off : Bool} {L : List Fl} {T : Nat → Prop} (h : Lz w a b W p L room off) (c : Ch T W W') (hT : ∀ k, Zn w.heap.size a b W k → T k → False) (hB : ∀ k, k < w.heap.size → ¬ T k) : Lz w a b W' p L room off :=
  ⟨(h.1.ch c hT).weaken (fun k hk => ⟨hk.1, hk.2.1, Nat.lt_of_lt_of_le hk.2.2 c.size⟩), h.2.1.trans (c.below hB h.2.1.size), Nat.le_trans h.2.2 c.size⟩

/-- A row of bytes that may be written to. -/
def Flips (W : World) (ad : Addr) (n : Nat) : Prop := ∃ cs : Array Value, Blk W ad.block 5 cs ∧ ad = ⟨ad.block, 0, none⟩ ∧ ∀ i, i < n → ∃ z, cs[i]? = some (.int .u8 z)
theorem add_at {ad : Addr} (h : ad = ⟨ad.block, 0, none⟩) (i : Nat) : ad.add i = ⟨ad.block, i, none⟩ := by
  obtain ⟨g, o, s⟩ := ad
  injection h with _ h1 h2
  subst h1; subst h2
  unfold Addr.add
  split <;> simp_all
theorem flips_of {W : World} {base n : Nat} {l : Tx} {A : Option Addr} {c : Nat} (h : W.ownsRow base 5 1 (.slice A n c) n (BVs l)) {ad : Addr} (hA : A = some ad) (hn : n = l.length) : Flips W ad n ∧ base ≤ ad.block := by
  subst hA
  rcases h.2 with ⟨hv, _⟩ | ⟨g, cap, cur, hv, hb, hr, h1, h2, h3, h4⟩
  · cases hv
  · injection hv with e1 _ _
    injection e1 with e1
    subst e1
    refine ⟨⟨cur, hr, rfl, fun i hi => ?_⟩, hb⟩
    have h5 : (BVs l)[i]? = some (.int .u8 (l[i].toNat : Int)) := BVs_get (by omega)
    rw [← h4, List.getElem?_take, if_pos (by omega)] at h5
    exact ⟨_, by simpa using h5⟩
theorem flips_set {W : World} {ad : Addr} {n i : Nat} (h : Flips W ad n) (z : Int) : Flips (W.setCell (ad.add i) (.int .u8 z)) ad n := by
  obtain ⟨cs, h1, h2, h3⟩ := h
  have ha : ad.add i = ⟨ad.block, i, none⟩ := add_at h2 i
  rw [ha]
  refine ⟨_, h1.set_ i _, h2, fun j hj => ?_⟩
  obtain ⟨y, hy⟩ := h3 j hj
  rw [Array.getElem?_setIfInBounds]
  split
  · rename_i e
    subst e
    have hlt := (Array.getElem?_eq_some_iff.1 hy).1
    exact ⟨z, by rw [if_pos hlt]⟩
  · exact ⟨y, hy⟩
theorem flips_at {W : World} {ad : Addr} {n i : Nat} (h : Flips W ad n) (hi : i < n) : ∃ z, W.cell? (ad.add i) = some (.int .u8 z) ∧ W.frozen? (ad.add i) = false := by
  obtain ⟨cs, h1, h2, h3⟩ := h
  have ha : ad.add i = ⟨ad.block, i, none⟩ := add_at h2 i
  obtain ⟨z, hz⟩ := h3 i hi
  rw [ha]
  exact ⟨z, by rw [h1.cell i]; exact hz, h1.frozen i⟩
theorem flips_ch {W W' : World} {ad : Addr} {n : Nat} {T : Nat → Prop} (h : Flips W ad n) (c : Ch T W W') (hT : ¬ T ad.block) : Flips W' ad n := by
  obtain ⟨cs, h1, h2, h3⟩ := h
  exact ⟨cs, h1.ch c hT, h2, h3⟩

theorem app_all (b : Tx) (h : b.length ≤ 4194304) : appS [⟨[97], [], 0⟩] 4194304 false [97] b = ([⟨[97], b, 0⟩], 0) := by
  show (putS [⟨[97], [], 0⟩] 4194304 ⟨[97], [], 0⟩ 0 b) = _
  unfold putS
  rw [if_neg (by show ¬ 4194304 + 0 < b.length + (0 + 0) + 0; omega)]
  simp [upd, setf, wr]

set_option maxRecDepth 100000 in
set_option maxHeartbeats 4000000 in
theorem none_any (w : World) (A : Option Addr) (c : Nat) (b : Tx) (hb : Sl w (fun k => w.heap.size ≤ k) 1 (.slice A b.length c) b.length (BVs b)) (hbl : b.length ≤ 140737488351232) :
    Calls Try.prog 6 #[.slice A b.length c] w fun e w' => e = .returned (.bool true) ∧ Below w.heap.size w w' := by
  have HBS := Lib.hid hb
  have HBL := Lib.hid hbl
  clear hb hbl
  go_enter Try.func6, Try.ntmps6
  go_wp2_with fail
  refine (live_any w).mono ?_
  rintro e w1 ⟨rfl, hb1⟩
  have HB1 := Lib.hid hb1
  clear hb1
  go_wp2_with fail
  have hU : Hid (∀ k : Nat, k < 2 → ∃ o, ((w1.alloc (.cells #[.map none, .int .i64 0, .bool false] 62)).alloc (.cells #[.pointer none, .pointer (some ⟨w1.heap.size, 0, none⟩)] 24)).cell? ⟨w1.heap.size + 1, k, none⟩ = some (.pointer o) ∧ Un ((w1.alloc (.cells #[.map none, .int .i64 0, .bool false] 62)).alloc (.cells #[.pointer none, .pointer (some ⟨w1.heap.size, 0, none⟩)] 24)) (.pointer o)) := Lib.hid fun k hk => by
    have hB : Blk ((w1.alloc (.cells #[.map none, .int .i64 0, .bool false] 62)).alloc (.cells #[.pointer none, .pointer (some ⟨w1.heap.size, 0, none⟩)] 24)) (w1.heap.size + 1) 24 #[.pointer none, .pointer (some ⟨w1.heap.size, 0, none⟩)] := Blk.new_at (by simp) rfl
    match k, hk with
    | 0, _ => exact ⟨none, hB.cell 0, .inl rfl⟩
    | 1, _ => exact ⟨_, hB.cell 1, .inr ⟨_, rfl, (Blk.new _ _ _).alloc _⟩⟩
  have HB2 : Hid (Below w.heap.size w ((w1.alloc (.cells #[.map none, .int .i64 0, .bool false] 62)).alloc (.cells #[.pointer none, .pointer (some ⟨w1.heap.size, 0, none⟩)] 24))) := Lib.hid (by
    have h1 := HB1.out.size
    exact (HB1.out.alloc h1 _).alloc (by simp; omega) _)
  generalize ((w1.alloc (.cells #[.map none, .int .i64 0, .bool false] 62)).alloc (.cells #[.pointer none, .pointer (some ⟨w1.heap.size, 0, none⟩)] 24)) = w2 at hU HB2 ⊢
  go_loopw [24] (fun i wr => wr = w2 ∧ ∃ k : Nat, k ≤ 2 ∧ i = .int .i64 (k : Int)) (fun i _ => 2 - (intOf i).toNat)
  case atStart => exact ⟨rfl, 0, by omega, rfl⟩
  case round =>
    obtain ⟨rfl, k, hk, rfl⟩ := hrel
    by_cases hlt : k < 2
    · obtain ⟨o, hcell, hun⟩ := hU.out k hlt
      have HUN := Lib.hid hun
      clear hun
      go_wp2_with (first
        | (go_at_call 18; refine (get_un _ _ _ HUN.out).mono ?_; rintro e w' ⟨rfl, rfl⟩)
        | (go_at_call 19; refine (synced_un _ _ _ HUN.out).mono ?_; rintro e w' ⟨rfl, rfl⟩)
        | (go_at_call 13; refine (create_un _ _ _ HUN.out).mono ?_; rintro e w' ⟨rfl, rfl⟩)
        | (go_at_call 14; refine (append_un _ _ _ _ HUN.out).mono ?_; rintro e w' ⟨rfl, rfl⟩)
        | (go_at_call 27; refine (write_un _ _ _ _ _ HUN.out).mono ?_; rintro e w' ⟨rfl, rfl⟩)
        | (go_at_call 28; refine (sync_un _ _ _ HUN.out).mono ?_; rintro e w' ⟨rfl, rfl⟩)
        | (go_at_call 29; refine (rename_un _ _ _ _ HUN.out).mono ?_; rintro e w' ⟨rfl, rfl⟩)
        | (go_at_call 30; refine (trunc_un _ _ _ _ HUN.out).mono ?_; rintro e w' ⟨rfl, rfl⟩)
        | (go_at_call 15; refine (remove_un _ _ _ HUN.out).mono ?_; rintro e w' ⟨rfl, rfl⟩)
        | (go_at_call 17; refine (list_un _ _ HUN.out).mono ?_; rintro e w' ⟨rfl, rfl⟩)
        | (go_at_call 25; refine (used_un _ _ HUN.out).mono ?_; rintro e w' ⟨rfl, rfl⟩)
        | (go_at_call 31; refine (room_un _ _ HUN.out).mono ?_; rintro e w' ⟨rfl, rfl⟩)
        | (go_at_call 20; refine (crash_un _ _ _ HUN.out).mono ?_; rintro e w' ⟨rfl, rfl⟩)
        | (go_at_call 21; refine (restart_un _ _ HUN.out).mono ?_; rintro e w' ⟨rfl, rfl⟩)
        | (go_at_call 16; refine (off_un _ _ HUN.out).mono ?_; rintro e w' ⟨rfl, rfl⟩)
        | (go_at_call 12; refine (clone_un _ _ HUN.out).mono ?_; rintro e w' ⟨rfl, rfl⟩))
      go_roundw
      case rel => exact ⟨trivial, k + 1, by omega, by go_num⟩
      case measure => simp [intOf]; omega
    · have hke : k = 2 := by omega
      subst hke
      clear hU hlt hk
      go_wp2_with fail
      refine (new_ok wr 4194304 (by omega)).mono ?_
      rintro e w3 ⟨p, rfl, hD3, hB3⟩
      have h23 := hB3.size
      have HB3 := Lib.hid (HB2.out.trans (hB3.mono HB2.out.size))
      have HD3 : Hid (Dk w3 (New wr w3) p [] 4194304 false) := Lib.hid hD3
      have HS23 := Lib.hid (And.intro HB2.out.size h23)
      clear hD3 hB3 h23
      by_cases hlen : b.length ≤ 4194304
      · go_wp2_with fail
        have hb3 : Sl w3 (fun k => w.heap.size ≤ k) 1 (.slice A b.length c) b.length (BVs b) := HBS.out.below HB3.out (fun k _ h => h)
        refine (clone_sh _ _ b.length b w3 hb3 (by omega)).mono ?_
        rintro e w4 ⟨A4, c4, rfl, ho4, hb4⟩
        have HO4 := Lib.hid ho4
        have h34 := hb4.size
        have h4 : Lz w w3.heap.size w4.heap.size w4 p [] 4194304 false := by
          have := HS23.out
          exact ⟨(HD3.out.later hb4).weaken (fun k hk => ⟨by have := hk.1; omega, by have := hk.2; omega, by have := hk.2; omega⟩), HB3.out.trans (hb4.mono HB3.out.size), Nat.le_refl _⟩
        have H4 := Lib.hid h4
        have HS34 := Lib.hid h34
        clear hb3 ho4 hb4 h34 h4
        go_wp2_with fail
        refine (create_on w4 _ p [] 4194304 false [97] (by simp) H4.out.1).mono ?_
        rintro e w5 hd
        have hc5 : Ch (Zn w.heap.size w3.heap.size w4.heap.size w4) w4 w5 := hd.2.2
        obtain ⟨rfl, h5⟩ := lz_did H4.out hd
        have H5 : Hid (Lz w w3.heap.size w4.heap.size w5 p [⟨[97], [], 0⟩] 4194304 false) := Lib.hid h5
        have ho5 : w5.ownsRow w3.heap.size 5 1 (.slice A4 b.length c4) b.length (BVs b) := own_ch HO4.out hc5 (fun g hg hz => hz.2.1 (HO4.out.lt g hg))
        have HO5 := Lib.hid ho5
        clear hd h5 hc5 ho5
        go_wp2_with fail
        refine (append_on w5 _ (fun k => ¬ (w3.heap.size ≤ k ∧ k < w4.heap.size)) p _ 4194304 false [97] (by simp) H5.out.1 b A4 c4 ?_ ?_ (by omega)).mono ?_
        · exact Sl.of_own' HO5.out (fun k hk hn => hn ⟨(HO5.out.lt k hk).1, by have := HO4.out.lt k hk; exact this.2⟩)
        · exact fun k hk => hk.2.1
        rintro e w6 hd
        rw [app_all b hlen] at hd
        have hc6 : Ch (Zn w.heap.size w3.heap.size w4.heap.size w5) w5 w6 := hd.2.2
        obtain ⟨rfl, h6⟩ := lz_did H5.out hd
        have H6 : Hid (Lz w w3.heap.size w4.heap.size w6 p [⟨[97], b, 0⟩] 4194304 false) := Lib.hid h6
        have ho6 : w6.ownsRow w3.heap.size 5 1 (.slice A4 b.length c4) b.length (BVs b) := own_ch HO5.out hc6 (fun g hg hz => hz.2.1 (HO4.out.lt g hg))
        have HO6 := Lib.hid ho6
        have HF6 : Hid (∀ ad, A4 = some ad → Flips w6 ad b.length ∧ w3.heap.size ≤ ad.block ∧ ad.block < w4.heap.size) := Lib.hid fun ad ha => by
          obtain ⟨g1, g2⟩ := flips_of HO6.out ha rfl
          exact ⟨g1, g2, (HO4.out.lt ad.block (by rw [ha]; rfl)).2⟩
        have HA4 : Hid (0 < b.length → ∃ ad, A4 = some ad) := Lib.hid fun hn => by
          rcases HO6.out.2 with ⟨_, h0⟩ | ⟨g, cap, cur, hv, _⟩
          · omega
          · injection hv with e1 _ _
            exact ⟨_, e1⟩
        clear hd h6 hc6 ho6
        go_wp2_with fail
        go_loopw [143] (fun i wq => ∃ k : Nat, k ≤ b.length ∧ i = .int .i64 (k : Int) ∧ (∀ ad, A4 = some ad → Flips wq ad b.length) ∧ Lz w w3.heap.size w4.heap.size wq p [⟨[97], b, 0⟩] 4194304 false) (fun i _ => b.length - (intOf i).toNat)
        case atStart => exact ⟨0, Nat.zero_le _, rfl, fun ad ha => (HF6.out ad ha).1, H6.out⟩
        case round =>
          obtain ⟨k, hk, rfl, hfl, hlz⟩ := hrel
          have HFL := Lib.hid hfl
          have HLZ := Lib.hid hlz
          clear hfl hlz
          by_cases hlt : k < b.length
          · obtain ⟨ad, rfl⟩ := HA4.out (by omega)
            obtain ⟨z, hc, hf⟩ := flips_at (HFL.out ad rfl) hlt
            go_wp2_with fail
            go_roundw
            case rel =>
              have hz := (HF6.out ad rfl).2
              have hw3 := HS23.out
              refine ⟨k + 1, by omega, by go_num, fun ad' ha => ?_, lz_ch (T := fun q => q = ad.block) HLZ.out ((Ch.refl (fun q => q = ad.block) _).setCell (p := ad.add k) (fun _ => add_block ad k) _) (fun q hq e => hq.2.1 (by rw [e]; exact hz)) (fun q hq e => by omega)⟩
              injection ha with ha
              subst ha
              exact flips_set (HFL.out ad rfl) _
            case measure => simp [intOf]; omega
          · have hke : k = b.length := by omega
            subst hke
            clear hlt hk HFL
            have HG : Hid (Calls Try.prog 18 #[.pointer (some ⟨p, 0, none⟩), .string ⟨#[97]⟩] wr (Got wr (b, 0))) := Lib.hid (get_on wr _ p _ 4194304 false [97] (by simp) HLZ.out.1)
            generalize wr = wo at HG HLZ ⊢
            go_wp2_with fail
            refine HG.out.mono ?_
            rintro e w7 ⟨A7, c7, rfl, ho7, hb7⟩
            have HO7 := Lib.hid ho7
            have HB7 := Lib.hid (HLZ.out.2.1.trans (hb7.mono HLZ.out.2.1.size))
            have HD7 := Lib.hid (HLZ.out.1.later hb7)
            have HF7 : Hid (∀ ad, A7 = some ad → Flips w7 ad b.length ∧ wo.heap.size ≤ ad.block) := Lib.hid fun ad ha => flips_of HO7.out ha rfl
            have HA7 : Hid (0 < b.length → ∃ ad, A7 = some ad) := Lib.hid fun hn => by
              rcases HO7.out.2 with ⟨_, h0⟩ | ⟨g, cap, cur, hv, _⟩
              · exact absurd h0 (Nat.ne_of_gt hn)
              · injection hv with e1 _ _
                exact ⟨_, e1⟩
            clear ho7 hb7
            go_wp2_with fail
            go_loopw [160] (fun i wq => ∃ k : Nat, k ≤ b.length ∧ i = .int .i64 (k : Int) ∧ (∀ ad, A7 = some ad → Flips wq ad b.length) ∧ Dk wq (Zn w.heap.size w3.heap.size w4.heap.size wo) p [⟨[97], b, 0⟩] 4194304 false ∧ Below w.heap.size w wq) (fun i _ => b.length - (intOf i).toNat)
            case atStart => exact ⟨0, Nat.zero_le _, rfl, fun ad ha => (HF7.out ad ha).1, HD7.out, HB7.out⟩
            case round =>
              obtain ⟨k, hk, rfl, hfl, hdk, hbq⟩ := hrel
              have HFL := Lib.hid hfl
              have HDK := Lib.hid hdk
              have HBQ := Lib.hid hbq
              clear hfl hdk hbq
              by_cases hlt : k < b.length
              · obtain ⟨ad, rfl⟩ := HA7.out (by omega)
                obtain ⟨z, hc, hf⟩ := flips_at (HFL.out ad rfl) hlt
                go_wp2_with fail
                go_roundw
                case rel =>
                  have hz := (HF7.out ad rfl).2
                  have hwo := HLZ.out.2.1.size
                  refine ⟨k + 1, by omega, by go_num, fun ad' ha => ?_, HDK.out.ch (T := fun q => q = ad.block) ((Ch.refl (fun q => q = ad.block) _).setCell (p := ad.add k) (fun _ => add_block ad k) _) (fun q hq e => by have := hq.2.2; omega), HBQ.out.setCell (by rw [add_block]; omega) _⟩
                  injection ha with ha
                  subst ha
                  exact flips_set (HFL.out ad rfl) _
                case measure => simp [intOf]; omega
              · have hke : k = b.length := by omega
                subst hke
                clear hlt hk HFL
                have HG2 : Hid (Calls Try.prog 18 #[.pointer (some ⟨p, 0, none⟩), .string ⟨#[97]⟩] wr (Got wr (b, 0))) := Lib.hid (get_on wr _ p _ 4194304 false [97] (by simp) HDK.out)
                go_wp2_with fail
                refine HG2.out.mono ?_
                rintro e w8 ⟨A8, c8, rfl, ho8, hb8⟩
                have HO8 := Lib.hid ho8
                have HB8 := Lib.hid (HBQ.out.trans (hb8.mono HBQ.out.size))
                clear ho8 hb8
                go_wp2_with fail
                refine (equal_any _ (fun _ => False) (fun k => w.heap.size ≤ k) _ _ b.length b.length b b (Sl.of_own HO8.out (fun _ _ _ h => h)) (HBS.out.below HB8.out (fun k _ h => h))).mono ?_
                rintro e w' ⟨rfl, rfl⟩
                rw [beq_self_eq_true]
                go_wp2_with fail
                go_ret
                exact ⟨rfl, HB8.out⟩
      · go_wp2_with fail
        go_ret
        exact ⟨rfl, HB3.out⟩

end Go.Proofs.Ytncppflmpfefkaa.Dx
