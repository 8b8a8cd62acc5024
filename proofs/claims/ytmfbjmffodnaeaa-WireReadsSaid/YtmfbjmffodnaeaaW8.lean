/- What the document's Next answers: as the program's. -/
import Derived.Test.YtmfbjmffodnaeaaW7
set_option linter.unusedVariables false
namespace Go.Proofs.Ytmfbjmffodnaeaa.Wk
open Go.ChangeShapes Go.WideShapes Go.ChangeAt Go.RowKit M

theorem sub_sub (b : ByteArray) (n i j : Nat) (h : n + j ≤ b.size) : (b.extract n b.size).extract i j = b.extract (n + i) (n + j) := by
  rw [ByteArray.extract_extract, Nat.min_eq_left h]
theorem nR_T (b : ByteArray) (n : Nat) (h : n + 8 ≤ b.size) : (nR b n).extract 0 4 = b.extract n (n + 4) := sub_sub b n 0 4 (by omega)
theorem nR_L (b : ByteArray) (n : Nat) (h : n + 8 ≤ b.size) : cL (nR b n) = highB (b.extract (n + 4) (n + 8)) := by
  unfold cL; rw [show (nR b n).extract 4 8 = b.extract (n + 4) (n + 8) from sub_sub b n 4 8 (by omega)]
theorem nR_size (b : ByteArray) (n : Nat) (h : n + 8 ≤ b.size) : (nR b n).size = b.size - n := size_ext b n b.size (by omega) (by omega)
theorem nR_R (b : ByteArray) (n : Nat) (h : n + 8 ≤ b.size) : cR (nR b n) = b.extract (n + 8) b.size := by
  unfold cR
  rw [nR_size b n h]
  have := sub_sub b n 8 (b.size - n) (by omega)
  rw [show n + (b.size - n) = b.size by omega] at this
  exact this
theorem nR_C (b : ByteArray) (n L : Nat) (hL : cL (nR b n) = L) (h : n + 8 + L ≤ b.size) : cC (nR b n) = b.extract (n + 8) (n + 8 + L) := by
  unfold cC; rw [nR_R b n (by omega), hL]; exact sub_sub b (n + 8) 0 L (by omega)
theorem nR_S (b : ByteArray) (n L : Nat) (hL : cL (nR b n) = L) (h : n + 8 + L + 4 ≤ b.size) : cS (nR b n) = highB (b.extract (n + 8 + L) (n + 8 + L + 4)) := by
  unfold cS; rw [nR_R b n (by omega), hL, sub_sub b (n + 8) L (L + 4) (by omega)]; rfl

set_option maxHeartbeats 1000000 in
set_option maxRecDepth 100000 in
theorem rnext_any (b : ByteArray) (a : Int) (w : World) (hb : b.size ≤ 1073741824) (ha : -9223372036854775808 ≤ a) (ha2 : a ≤ 9223372036854775807) :
    Calls Try.prog 20 #[.string b, .int .i64 a] w fun e w' => e = .returned (nV b a) ∧ w = w' := by
  by_cases h0 : a < 0
  · have HV : Hid (∀ _ : Unit, nV b a = _) := Lib.hid (fun _ => nV_lack b a 1 (by unfold lackE; rw [if_pos (by omega)]) (by decide))
    go_enter Try.func20, Try.ntmps20
    go_wp2
    refine bodyPost_ret (v := .tuple #[.string ⟨#[]⟩, .string ⟨#[]⟩, .int .i64 a, .int .i64 1]) (by simp [results, Try.results20, go_sem]) rfl ⟨ret_v (HV.out ()).symm, rfl⟩
  · by_cases h1 : (b.size : Int) < a
    · have HV : Hid (∀ _ : Unit, nV b a = _) := Lib.hid (fun _ => nV_lack b a 1 (by unfold lackE; rw [if_pos (by omega)]) (by decide))
      go_enter Try.func20, Try.ntmps20
      go_wp2
      all_goals first | (exfalso; omega) | skip
      refine bodyPost_ret (v := .tuple #[.string ⟨#[]⟩, .string ⟨#[]⟩, .int .i64 a, .int .i64 1]) (by simp [results, Try.results20, go_sem]) rfl ⟨ret_v (HV.out ()).symm, rfl⟩
    · obtain ⟨n, rfl⟩ := Int.eq_ofNat_of_zero_le (show 0 ≤ a by omega)
      by_cases h8 : (b.size : Int) - n < 8
      · have HV : Hid (∀ _ : Unit, nV b n = _) := Lib.hid (fun _ => nV_lack b n 20 (by unfold lackE; rw [if_neg (by omega), if_pos (by omega)]) (by decide))
        go_enter Try.func20, Try.ntmps20
        go_wp2
        all_goals first | (exfalso; omega) | skip
        refine bodyPost_ret (v := .tuple #[.string ⟨#[]⟩, .string ⟨#[]⟩, .int .i64 n, .int .i64 20]) (by simp [results, Try.results20, go_sem]) rfl ⟨ret_v (HV.out ()).symm, rfl⟩
      · have h8' : n + 8 ≤ b.size := by omega
        have hlk : Hid (∀ _ : Unit, lackE b.size n 8 = 0) := Lib.hid (fun _ => by unfold lackE; rw [if_neg (by omega), if_neg (by omega)])
        have s4 := size_ext b n (n + 4) (by omega) (by omega)
        have s8 := size_ext b (n + 4) (n + 8) (by omega) (by omega)
        have hLt := highB_lt (b.extract (n + 4) (n + 8)) (by omega)
        have rdL : Hid (∀ w : World, Calls Try.prog 37 #[.string (b.extract (n + 4) (n + 8))] w fun e w' => e = .returned (.int .u64 (highB (b.extract (n + 4) (n + 8)))) ∧ w = w') := Lib.hid (fun w => high_B _ w (by omega))
        have HL : Hid (∀ _ : Unit, cL (nR b n) = highB (b.extract (n + 4) (n + 8))) := Lib.hid (fun _ => nR_L b n h8')
        generalize highB (b.extract (n + 4) (n + 8)) = L at *
        have hwL : IntKind.i64.wrap (L : Int) = L := wrap_nat L (by omega)
        cases ht : tagB (b.extract n (n + 4))
        · have HV : Hid (∀ _ : Unit, nV b n = _) := Lib.hid (fun _ => nV_ch b n (hlk.out ()) 1 (chE_1 _ (by rw [nR_T b n h8']; exact ht)) (by decide))
          clear rdL
          go_enter Try.func20, Try.ntmps20
          go_wp2_with (first
            | (go_at_call 34; refine (rTag_any _ _).mono ?_; rintro e w' ⟨rfl, rfl⟩))
          all_goals first | (exfalso; omega) | skip
          refine bodyPost_ret (v := .tuple #[.string ⟨#[]⟩, .string ⟨#[]⟩, .int .i64 n, .int .i64 1]) (by simp [results, Try.results20, go_sem]) rfl ⟨ret_v (HV.out ()).symm, rfl⟩
        · have HT : Hid (∀ _ : Unit, tagB ((nR b n).extract 0 4) = true) := Lib.hid (fun _ => by rw [nR_T b n h8']; exact ht)
          by_cases h21 : L ≤ 16777216
          · by_cases h20 : n + 8 + L + 4 ≤ b.size
            · have HZ : Hid (∀ _ : Unit, (b.extract (n + 8 + L) (n + 8 + L + 4)).size ≤ 8 ∧ (b.extract n (n + 4)).size + (b.extract (n + 8) (n + 8 + L)).size ≤ maxLen ∧ (b.extract (n + 8) (n + 8 + L)).size = L) := Lib.hid (fun _ => by
                have a1 := size_ext b (n + 8 + L) (n + 8 + L + 4) (by omega) (by omega)
                have a2 := size_ext b (n + 8) (n + 8 + L) (by omega) (by omega)
                unfold maxLen; omega)
              have hW : IntKind.u64.wrap ((sum2 (b.extract n (n + 4)) (b.extract (n + 8) (n + 8 + L)) : Nat) : Int) = (sum2 (b.extract n (n + 4)) (b.extract (n + 8) (n + 8 + L)) : Nat) := wrap_sum2 _ _
              go_enter Try.func20, Try.ntmps20
              go_wp2_with (first
                | (go_at_call 34; refine (rTag_any _ _).mono ?_; rintro e w' ⟨rfl, rfl⟩))
              refine (rdL.out _).mono ?_
              rintro e w' ⟨rfl, rfl⟩
              go_wp2_with fail
              refine (high_B _ _ (HZ.out ()).1).mono ?_
              rintro e w' ⟨rfl, rfl⟩
              go_wp2_with fail
              all_goals first | (exfalso; omega) | skip
              refine (rsum_B _ _ _ (HZ.out ()).2.1).mono ?_
              rintro e w' ⟨rfl, rfl⟩
              go_wp2
              · rename_i hq
                have h22 : ¬ cS (nR b n) = sum2 ((nR b n).extract 0 4) (cC (nR b n)) := by
                  rw [nR_S b n L (HL.out ()) (by omega), nR_T b n h8', nR_C b n L (HL.out ()) (by omega)]; exact bne_tt _ _ hq
                have HV := nV_ch b n (hlk.out ()) 22 (chE_22 _ (HT.out ()) (by rw [HL.out ()]; exact h21) (by rw [HL.out (), nR_size b n h8']; omega) h22) (by decide)
                refine bodyPost_ret (v := .tuple #[.string ⟨#[]⟩, .string ⟨#[]⟩, .int .i64 n, .int .i64 22]) (by simp [results, Try.results20, go_sem]) rfl ⟨ret_v HV.symm, rfl⟩
              · rename_i hq
                have h22 : cS (nR b n) = sum2 ((nR b n).extract 0 4) (cC (nR b n)) := by
                  rw [nR_S b n L (HL.out ()) (by omega), nR_T b n h8', nR_C b n L (HL.out ()) (by omega)]; exact bne_ff _ _ hq
                have HV := nV_ok b n (hlk.out ()) (chE_0 _ (HT.out ()) (by rw [HL.out ()]; exact h21) (by rw [HL.out (), nR_size b n h8']; omega) h22)
                rw [nR_T b n h8', nR_C b n L (HL.out ()) (by omega), (HZ.out ()).2.2] at HV
                refine bodyPost_ret (v := .tuple #[.string (b.extract n (n + 4)), .string (b.extract (n + 8) (n + 8 + L)), .int .i64 ((n : Int) + 8 + L + 4), .int .i64 0]) (by simp [results, Try.results20, go_sem]) rfl ⟨ret_v ?_, rfl⟩
                rw [HV, show (n : Int) + 8 + L + 4 = n + 12 + L by omega]
            · have HV : Hid (∀ _ : Unit, nV b n = _) := Lib.hid (fun _ => nV_ch b n (hlk.out ()) 20 (chE_20 _ (HT.out ()) (by rw [HL.out ()]; exact h21) (by rw [HL.out (), nR_size b n h8']; omega)) (by decide))
              go_enter Try.func20, Try.ntmps20
              go_wp2_with (first
                | (go_at_call 34; refine (rTag_any _ _).mono ?_; rintro e w' ⟨rfl, rfl⟩))
              refine (rdL.out _).mono ?_
              rintro e w' ⟨rfl, rfl⟩
              go_wp2_with fail
              all_goals first | (exfalso; omega) | skip
              refine bodyPost_ret (v := .tuple #[.string ⟨#[]⟩, .string ⟨#[]⟩, .int .i64 n, .int .i64 20]) (by simp [results, Try.results20, go_sem]) rfl ⟨ret_v (HV.out ()).symm, rfl⟩
          · have HV : Hid (∀ _ : Unit, nV b n = _) := Lib.hid (fun _ => nV_ch b n (hlk.out ()) 21 (chE_21 _ (HT.out ()) (by rw [HL.out ()]; exact h21)) (by decide))
            go_enter Try.func20, Try.ntmps20
            go_wp2_with (first
              | (go_at_call 34; refine (rTag_any _ _).mono ?_; rintro e w' ⟨rfl, rfl⟩))
            refine (rdL.out _).mono ?_
            rintro e w' ⟨rfl, rfl⟩
            go_wp2_with fail
            all_goals first | (exfalso; omega) | skip
            refine bodyPost_ret (v := .tuple #[.string ⟨#[]⟩, .string ⟨#[]⟩, .int .i64 n, .int .i64 21]) (by simp [results, Try.results20, go_sem]) rfl ⟨ret_v (HV.out ()).symm, rfl⟩
end Go.Proofs.Ytmfbjmffodnaeaa.Wk
