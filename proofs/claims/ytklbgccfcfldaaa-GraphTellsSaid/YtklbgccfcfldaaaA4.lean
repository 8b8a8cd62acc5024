/- What Unpack answers (the program's and the document's), for every two words. No condition beyond what each theorem states. -/
import Derived.Test.YtklbgccfcfldaaaA3
import Derived.Handy
namespace Go.Proofs.Ytklbgccfcfldaaa.Wk
open Go.ChangeShapes Go.WideShapes Go.ChangeAt Go.RowKit M

set_option maxHeartbeats 1000000 in
set_option maxRecDepth 100000 in
theorem unpack_y (a b : Int) (w : World) (ha : 0 ≤ a) (hb : 0 ≤ b) (h2 : a ≤ 70368744177663) (h3 : b ≤ 65536) (hh : hdB (uC a) (uF a) (uS a) (uH a) (uA a) b = true) :
    Calls Try.prog 72 #[.int .u64 a, .int .u64 b] w fun e w' =>
      e = .returned (.tuple #[hdV (uC a) (uF a) (uS a) (uH a) (uA a) b (uM a) (uN a), .int .i64 0]) ∧ Below w.heap.size w w' := by
  have hz : (a / 70368744177664 != 0) = false := by simp; omega
  have k1 : bits .and .u64 a 4095 = uC a := mask a 4095 12 (by decide) (by omega) (by omega) (by omega)
  have k2 : bits .and .u64 (a / 4096) 7 = uF a := mask _ 7 3 (by decide) (by omega) (by omega) (by omega)
  have k3 : bits .and .u64 (a / 32768) 7 = uS a := mask _ 7 3 (by decide) (by omega) (by omega) (by omega)
  have k4 : bits .and .u64 (a / 262144) 4194303 = uH a := mask _ 4194303 22 (by decide) (by omega) (by omega) (by omega)
  have k5 : bits .and .u64 (a / 1099511627776) 15 = uA a := mask _ 15 4 (by decide) (by omega) (by omega) (by omega)
  have k6 : bits .and .u64 (a / 17592186044416) 1 = a / 17592186044416 % 2 := mask _ 1 1 (by decide) (by omega) (by omega) (by omega)
  have k7 : bits .and .u64 (a / 35184372088832) 1 = a / 35184372088832 % 2 := mask _ 1 1 (by decide) (by omega) (by omega) (by omega)
  have k8 := uM_mask a
  have k9 := uN_mask a ha h2
  obtain ⟨⟨b1, b2⟩, ⟨b3, b4⟩, ⟨b5, b6⟩, ⟨b7, b8⟩, ⟨b9, b10⟩⟩ := u_bd a
  go_enter Try.func72, Try.ntmps72
  go_wp2_with (go_at_call 82; refine (valid_any _ _ _ _ _ _ _ _ _).mono ?_; rintro e w' ⟨rfl, rfl⟩)
  refine bodyPost_ret (v := .tuple #[hdV (uC a) (uF a) (uS a) (uH a) (uA a) b (uM a) (uN a), .int .i64 0]) (by simp [results, Try.results72, go_sem]) rfl ⟨rfl, ?_⟩
  go_grown

/-- No header. -/
abbrev hd0 : Value := hdV 0 0 0 0 0 0 false false

set_option maxHeartbeats 1000000 in
set_option maxRecDepth 100000 in
theorem unpack_n (a b : Int) (w : World) (ha : 0 ≤ a) (hb : 0 ≤ b) (ha2 : a ≤ 18446744073709551615) (hu : unB a b = false) :
    Calls Try.prog 72 #[.int .u64 a, .int .u64 b] w fun e w' =>
      e = .returned (.tuple #[hd0, .int .i64 10]) ∧ Below w.heap.size w w' := by
  by_cases h2 : a ≤ 70368744177663
  · by_cases h3 : b ≤ 65536
    · have hh : hdB (uC a) (uF a) (uS a) (uH a) (uA a) b = false := by
        unfold unB at hu; simpa [h2, h3] using hu
      clear hu
      have hz : (a / 70368744177664 != 0) = false := by simp; omega
      have k1 : bits .and .u64 a 4095 = uC a := mask a 4095 12 (by decide) (by omega) (by omega) (by omega)
      have k2 : bits .and .u64 (a / 4096) 7 = uF a := mask _ 7 3 (by decide) (by omega) (by omega) (by omega)
      have k3 : bits .and .u64 (a / 32768) 7 = uS a := mask _ 7 3 (by decide) (by omega) (by omega) (by omega)
      have k4 : bits .and .u64 (a / 262144) 4194303 = uH a := mask _ 4194303 22 (by decide) (by omega) (by omega) (by omega)
      have k5 : bits .and .u64 (a / 1099511627776) 15 = uA a := mask _ 15 4 (by decide) (by omega) (by omega) (by omega)
      have k6 : bits .and .u64 (a / 17592186044416) 1 = a / 17592186044416 % 2 := mask _ 1 1 (by decide) (by omega) (by omega) (by omega)
      have k7 : bits .and .u64 (a / 35184372088832) 1 = a / 35184372088832 % 2 := mask _ 1 1 (by decide) (by omega) (by omega) (by omega)
      have k8 := uM_mask a
      have k9 := uN_mask a ha h2
      obtain ⟨⟨b1, b2⟩, ⟨b3, b4⟩, ⟨b5, b6⟩, ⟨b7, b8⟩, ⟨b9, b10⟩⟩ := u_bd a
      go_enter Try.func72, Try.ntmps72
      go_wp2_with (go_at_call 82; refine (valid_any _ _ _ _ _ _ _ _ _).mono ?_; rintro e w' ⟨rfl, rfl⟩)
      refine bodyPost_ret (v := .tuple #[hd0, .int .i64 10]) (by simp [results, Try.results72, go_sem]) rfl ⟨rfl, ?_⟩
      go_grown
    · have hz : (a / 70368744177664 != 0) = false := by simp; omega
      have h3' : 65536 < b := by omega
      clear hu
      go_enter Try.func72, Try.ntmps72
      go_wp2
      refine bodyPost_ret (v := .tuple #[hd0, .int .i64 10]) (by simp [results, Try.results72, go_sem]) rfl ⟨rfl, ?_⟩
      go_grown
  · have hz : (a / 70368744177664 != 0) = true := by simp; omega
    clear hu
    go_enter Try.func72, Try.ntmps72
    go_wp2
    refine bodyPost_ret (v := .tuple #[hd0, .int .i64 10]) (by simp [results, Try.results72, go_sem]) rfl ⟨rfl, ?_⟩
    go_grown

end Go.Proofs.Ytklbgccfcfldaaa.Wk
