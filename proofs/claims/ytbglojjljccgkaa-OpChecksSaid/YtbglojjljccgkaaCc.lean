/-
  Contract of layer 1's PutList.
-/
import Derived.Test.YtbglojjljccgkaaCb
namespace Go.Proofs.Ytbglojjljccgkaa.Cc
open Go Go.RowKit Ck Ca Cb

set_option maxHeartbeats 400000 in
theorem putlist_any (X Y : Nat → Prop) (v : Value) (n : Nat) (b : List UInt8) (A : Option Addr) (c : Nat) (ls : List (List UInt8)) (w : World) (hv : Sl w X 1 v n (BVs b)) (hls : Ls w Y (.slice A ls.length c) ls)
    (hn : n ≤ 274877906944) (ht : (Cm.encP ls).length ≤ 274877906944) :
    Calls Try.prog 51 #[v, .slice A ls.length c] w fun e w' => Made w 5 (b ++ Cm.encL ls) e w' := by
  have hnl : n = b.length := by obtain ⟨A, c, _, h, _⟩ := hv; rw [BVs_len] at h; omega
  subst hnl
  have hlen := Cm.enc_len ls.length
  have hll := Cm.len_le_encP ls
  go_enter Try.func51, Try.ntmps51
  go_wp2_with (go_at_call 71; refine (numlen_any ls.length (by omega) _).mono ?_; rintro e w1 ⟨rfl, hb1⟩)
  go_loopw [5, 16] (fun m i wr => ∃ k : Nat, k ≤ ls.length ∧ i = .int .i64 k ∧ m = .int .i64 ((Cm.enc ls.length).length + (Cm.encP (ls.take k)).length : Nat) ∧ Below w.heap.size w wr)
    (fun _ i _ => ls.length - (intOf i).toNat)
  case atStart => exact ⟨0, Nat.zero_le _, rfl, by simp [Cm.encP], hb1⟩
  case round =>
    obtain ⟨k, hk, rfl, rfl, hbr⟩ := hrel
    have hle := Cm.encP_le ls k
    by_cases hlt : k < ls.length
    · have hle2 := Cm.encP_le ls (k + 1)
      have htk := Cm.encP_take hlt
      have hpl := Cm.part_le_encP ls k hlt
      have hel := Cm.enc_len ls[k].length
      obtain ⟨ad, B, d, rfl, hcell, hx⟩ := (hls.after hbr).at_ hlt
      have HT := Lib.hid htk
      clear htk
      go_wp2_with (go_at_call 73; refine (byteslen_any B ls[k].length d (by omega) _).mono ?_; rintro e w2 ⟨rfl, hb2⟩)
      go_roundw
      case rel =>
        have HT2 := congrArg List.length HT.out
        rw [List.length_append, Cm.encB_len] at HT2
        exact ⟨k + 1, by omega, by go_num, by rw [HT2]; go_num, hbr.trans (hb2.mono hbr.size)⟩
      case measure => simp [intOf]; omega
    · have hke : k = ls.length := by omega
      subst hke
      rw [List.take_length] at hle ⊢
      go_wp2_with (first
        | (go_at_call 58; refine (roomy_any X v b.length b ((Cm.enc ls.length).length + (Cm.encP ls).length) _ (hv.after hbr) (by omega) (by omega)).mono ?_; rintro e w2 ⟨v2, rfl, hown2, hb2⟩)
        | (go_at_call 70; refine (addnum_any wr.heap.size v2 ls.length b _ hown2 hb2.size (by omega) (by omega)).mono ?_; rintro e w3 ⟨v3, rfl, hown3, hg3, hr3⟩))
      have hown4 := own_base hown3 hbr.size
      have hb4 : Below w.heap.size w w3 := hbr.trans ((hb2.mono hbr.size).grown hg3 (Nat.le_trans hbr.size hb2.size) (fun g hg => Nat.le_trans hbr.size (hown2.lt g hg).1))
      clear hown3 hg3 hr3 hown2 hb2
      go_loopw [0, 34] (fun u i wq => ∃ k : Nat, k ≤ ls.length ∧ i = .int .i64 k ∧ wq.ownsRow w.heap.size 5 1 u (b ++ Cm.enc ls.length ++ Cm.encP (ls.take k)).length (BVs (b ++ Cm.enc ls.length ++ Cm.encP (ls.take k))) ∧ Below w.heap.size w wq)
        (fun _ i _ => ls.length - (intOf i).toNat)
      case atStart => exact ⟨0, Nat.zero_le _, rfl, by simpa [Cm.encP] using hown4, hb4⟩
      case round =>
        obtain ⟨k, hk, rfl, hown, hbq⟩ := hrel
        have hle := Cm.encP_le ls k
        by_cases hlt : k < ls.length
        · have htk := Cm.encP_take hlt
          have hpl := Cm.part_le_encP ls k hlt
          have hx := (hls.old' (Nat.le_refl _)).below hbq (fun k _ h => h)
          obtain ⟨ad, B, d, rfl, hcell, hx⟩ := hx.at_ hlt
          have HT := Lib.hid htk
          clear htk
          go_wp2_with (go_at_call 72; refine (addbytes_any w.heap.size (w.heap.size ≤ ·) _ _ B _ d ls[k] _ hown hbq.size hx (fun g hg => (hown.lt g hg).1) (by simp only [List.length_append]; omega) (by simp only [List.length_append]; omega)).mono ?_; rintro e w5 ⟨v5, rfl, hown5, hg5, hr5⟩)
          go_roundw
          case rel =>
            exact ⟨k + 1, by omega, by go_num, by rw [HT.out, ← List.append_assoc]; exact hown5, hbq.grown hg5 hbq.size (fun g hg => (hown.lt g hg).1)⟩
          case measure => simp [intOf]; omega
        · have hke : k = ls.length := by omega
          subst hke
          rw [List.take_length] at hown
          go_wp2
          go_ret
          exact ⟨_, rfl, by rw [Cm.encL, ← List.append_assoc]; exact hown, hbq⟩

end Go.Proofs.Ytbglojjljccgkaa.Cc
