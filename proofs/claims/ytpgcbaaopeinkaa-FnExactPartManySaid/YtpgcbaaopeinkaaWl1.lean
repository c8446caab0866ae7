/- Each Go function (l1) returns what its plain twin returns. Conditions: those of each theorem. -/
import Derived.Test.YtpgcbaaopeinkaaChecked
import Derived.Test.YtpgcbaaopeinkaaPl1
import Derived.Test.YtpgcbaaopeinkaaNl1
namespace Go.Proofs.Ytpgcbaaopeinkaa
open Go.RowKit
set_option linter.unusedVariables false
set_option linter.unusedSimpArgs false

-- laws.eqIntS
theorem L.eqIntS_calls {a : List Int} {a_a : Option Addr} {c_a : Nat} {b_ : List Int} {a_b_ : Option Addr} {c_b_ : Nat} {w : World} (r_a : Row w a_a a) (r_b_ : Row w a_b_ b_) :
    Calls Try.prog 48 #[.slice a_a a.length c_a, .slice a_b_ b_.length c_b_] w fun e w' => e = .returned (.bool (L.eqIntS a b_)) ∧ ∃ m, w.drewN m = w' := by
  have le_a := r_a.le
  have le_b_ := r_b_.le
  rcases Bool.eq_false_or_eq_true (((a.length : Int) != (b_.length : Int))) with hne | hne
  · skip
    go_enter Try.func48, Try.ntmps48
    go_wp2
    all_goals (try (go_quiet (fail); go_wp2))
    all_goals (try (go_quiet (fail); go_wp2))
    all_goals (first
      | (go_ret; refine ⟨ret_bool ?_, ?_⟩; (· exact (by first | rfl | (simp [L.eqIntS, *]; done) | (go_light; simp [L.eqIntS, *]; done) | (go_light; simp [L.eqIntS, *]; omega))); exact (by first | exact ⟨_, rfl⟩ | exact ⟨0, rfl⟩ | (simp only [World.drewN_drewN, World.drew_drewN, World.drewN_drew]; exact ⟨_, rfl⟩))))
  · have hle1 : a.length ≤ b_.length := by simp at hne; omega
    have hle2 : b_.length ≤ a.length := by simp at hne; omega
    go_enter Try.func48, Try.ntmps48
    go_wp2
    all_goals (try (go_quiet (fail); go_wp2))
    all_goals (try (go_quiet (fail); go_wp2))
    all_goals (try (first
      | (go_ret; refine ⟨ret_bool ?_, ?_⟩; (· exact (by first | rfl | (simp [L.eqIntS, *]; done) | (go_light; simp [L.eqIntS, *]; done) | (go_light; simp [L.eqIntS, *]; omega))); exact (by first | exact ⟨_, rfl⟩ | exact ⟨0, rfl⟩ | (simp only [World.drewN_drewN, World.drew_drewN, World.drewN_drew]; exact ⟨_, rfl⟩)))))
    go_loopg [5] (a.length) (fun g s5 wr => ∃ (k0 : Nat), k0 + g = a.length ∧ s5 = .int .i64 (k0 : Int) ∧ (∃ m, w.drewN m = wr) ∧ Aside (find k0 (L.eqIntS_L0 a b_) = none))
    case atStart =>
      exact ⟨0, by omega, by go_num, (by first | exact ⟨_, rfl⟩ | exact ⟨0, rfl⟩ | (simp only [World.drewN_drewN, World.drew_drewN, World.drewN_drew]; exact ⟨_, rfl⟩)), find_zero _⟩
    case round =>
      obtain ⟨g0, rfl⟩ : ∃ g : Nat, g = gk := ⟨_, rfl⟩
      obtain ⟨k0, hk0, rfl, ⟨m0, rfl⟩, ha0⟩ := hrel
      by_cases hlt0 : k0 < a.length
      · obtain ⟨b_a, o_a, rfl, hc_a⟩ := r_a.get hlt0
        have hc_a_k0 := hc_a k0 hlt0
        obtain ⟨b_b_, o_b_, rfl, hc_b_⟩ := r_b_.get (show k0 < b_.length by omega)
        have hc_b__k0 := hc_b_ k0 (show k0 < b_.length by omega)
        go_wp2
        all_goals (try (go_quiet (fail); go_wp2))
        all_goals (try (go_quiet (fail); go_wp2))
        all_goals (first
          | (go_roundg (g0 - 1); (case measure => omega); (case rel => exact ⟨k0 + 1, by omega, by go_num, (by first | exact ⟨_, rfl⟩ | exact ⟨0, rfl⟩ | (simp only [World.drewN_drewN, World.drew_drewN, World.drewN_drew]; exact ⟨_, rfl⟩)), find_none_succ ha0.out (by first | rfl | (simp [L.eqIntS_L0, *]; done) | (go_light; simp [L.eqIntS_L0, *]; done) | (go_light; simp [L.eqIntS_L0, *]; omega))⟩))
          | (have fi0 : (find a.length (L.eqIntS_L0 a b_)) = some false := find_some_of hlt0 ha0.out (by first | rfl | (simp [L.eqIntS_L0, *]; done) | (go_light; simp [L.eqIntS_L0, *]; done) | (go_light; simp [L.eqIntS_L0, *]; omega)); go_ret; refine ⟨ret_bool ?_, ?_⟩; (· exact (by first | rfl | (simp [L.eqIntS, fi0, *]; done) | (go_light; simp [L.eqIntS, fi0, *]; done) | (go_light; simp [L.eqIntS, fi0, *]; omega))); exact (by first | exact ⟨_, rfl⟩ | exact ⟨0, rfl⟩ | (simp only [World.drewN_drewN, World.drew_drewN, World.drewN_drew]; exact ⟨_, rfl⟩))))
      · obtain rfl : k0 = a.length := by omega
        go_wp2
        all_goals (try (go_quiet (fail); go_wp2))
        all_goals (try (go_quiet (fail); go_wp2))
        all_goals (first
          | (go_ret; refine ⟨ret_bool ?_, ?_⟩; (· exact (by first | rfl | (simp [L.eqIntS, ha0.out, *]; done) | (go_light; simp [L.eqIntS, ha0.out, *]; done) | (go_light; simp [L.eqIntS, ha0.out, *]; omega))); exact (by first | exact ⟨_, rfl⟩ | exact ⟨0, rfl⟩ | (simp only [World.drewN_drewN, World.drew_drewN, World.drewN_drew]; exact ⟨_, rfl⟩))))

-- laws.sameInts
theorem L.sameInts_calls {a : List Int} {a_a : Option Addr} {c_a : Nat} {b_ : List Int} {a_b_ : Option Addr} {c_b_ : Nat} {w : World} (r_a : Row w a_a a) (r_b_ : Row w a_b_ b_) :
    Calls Try.prog 45 #[.slice a_a a.length c_a, .slice a_b_ b_.length c_b_] w fun e w' => e = .returned (.bool (L.sameInts a b_)) ∧ ∃ m, w.drewN m = w' := by
  have le_a := r_a.le
  have le_b_ := r_b_.le
  rcases Bool.eq_false_or_eq_true (((a.length : Int) != (b_.length : Int))) with hne | hne
  · skip
    go_enter Try.func45, Try.ntmps45
    go_wp2
    all_goals (try (go_quiet (fail); go_wp2))
    all_goals (try (go_quiet (fail); go_wp2))
    all_goals (first
      | (go_ret; refine ⟨ret_bool ?_, ?_⟩; (· exact (by first | rfl | (simp [L.sameInts, *]; done) | (go_light; simp [L.sameInts, *]; done) | (go_light; simp [L.sameInts, *]; omega))); exact (by first | exact ⟨_, rfl⟩ | exact ⟨0, rfl⟩ | (simp only [World.drewN_drewN, World.drew_drewN, World.drewN_drew]; exact ⟨_, rfl⟩))))
  · have hle1 : a.length ≤ b_.length := by simp at hne; omega
    have hle2 : b_.length ≤ a.length := by simp at hne; omega
    go_enter Try.func45, Try.ntmps45
    go_wp2
    all_goals (try (go_quiet (fail); go_wp2))
    all_goals (try (go_quiet (fail); go_wp2))
    all_goals (try (first
      | (go_ret; refine ⟨ret_bool ?_, ?_⟩; (· exact (by first | rfl | (simp [L.sameInts, *]; done) | (go_light; simp [L.sameInts, *]; done) | (go_light; simp [L.sameInts, *]; omega))); exact (by first | exact ⟨_, rfl⟩ | exact ⟨0, rfl⟩ | (simp only [World.drewN_drewN, World.drew_drewN, World.drewN_drew]; exact ⟨_, rfl⟩)))))
    go_loopg [5] (a.length) (fun g s5 wr => ∃ (k0 : Nat), k0 + g = a.length ∧ s5 = .int .i64 (k0 : Int) ∧ (∃ m, w.drewN m = wr) ∧ Aside (find k0 (L.sameInts_L0 a b_) = none))
    case atStart =>
      exact ⟨0, by omega, by go_num, (by first | exact ⟨_, rfl⟩ | exact ⟨0, rfl⟩ | (simp only [World.drewN_drewN, World.drew_drewN, World.drewN_drew]; exact ⟨_, rfl⟩)), find_zero _⟩
    case round =>
      obtain ⟨g0, rfl⟩ : ∃ g : Nat, g = gk := ⟨_, rfl⟩
      obtain ⟨k0, hk0, rfl, ⟨m0, rfl⟩, ha0⟩ := hrel
      by_cases hlt0 : k0 < a.length
      · obtain ⟨b_a, o_a, rfl, hc_a⟩ := r_a.get hlt0
        have hc_a_k0 := hc_a k0 hlt0
        obtain ⟨b_b_, o_b_, rfl, hc_b_⟩ := r_b_.get (show k0 < b_.length by omega)
        have hc_b__k0 := hc_b_ k0 (show k0 < b_.length by omega)
        go_wp2
        all_goals (try (go_quiet (fail); go_wp2))
        all_goals (try (go_quiet (fail); go_wp2))
        all_goals (first
          | (go_roundg (g0 - 1); (case measure => omega); (case rel => exact ⟨k0 + 1, by omega, by go_num, (by first | exact ⟨_, rfl⟩ | exact ⟨0, rfl⟩ | (simp only [World.drewN_drewN, World.drew_drewN, World.drewN_drew]; exact ⟨_, rfl⟩)), find_none_succ ha0.out (by first | rfl | (simp [L.sameInts_L0, *]; done) | (go_light; simp [L.sameInts_L0, *]; done) | (go_light; simp [L.sameInts_L0, *]; omega))⟩))
          | (have fi0 : (find a.length (L.sameInts_L0 a b_)) = some false := find_some_of hlt0 ha0.out (by first | rfl | (simp [L.sameInts_L0, *]; done) | (go_light; simp [L.sameInts_L0, *]; done) | (go_light; simp [L.sameInts_L0, *]; omega)); go_ret; refine ⟨ret_bool ?_, ?_⟩; (· exact (by first | rfl | (simp [L.sameInts, fi0, *]; done) | (go_light; simp [L.sameInts, fi0, *]; done) | (go_light; simp [L.sameInts, fi0, *]; omega))); exact (by first | exact ⟨_, rfl⟩ | exact ⟨0, rfl⟩ | (simp only [World.drewN_drewN, World.drew_drewN, World.drewN_drew]; exact ⟨_, rfl⟩))))
      · obtain rfl : k0 = a.length := by omega
        go_wp2
        all_goals (try (go_quiet (fail); go_wp2))
        all_goals (try (go_quiet (fail); go_wp2))
        all_goals (first
          | (go_ret; refine ⟨ret_bool ?_, ?_⟩; (· exact (by first | rfl | (simp [L.sameInts, ha0.out, *]; done) | (go_light; simp [L.sameInts, ha0.out, *]; done) | (go_light; simp [L.sameInts, ha0.out, *]; omega))); exact (by first | exact ⟨_, rfl⟩ | exact ⟨0, rfl⟩ | (simp only [World.drewN_drewN, World.drew_drewN, World.drewN_drew]; exact ⟨_, rfl⟩))))

-- laws.sizeOf
theorem L.sizeOf_calls {n : Int} {w : World} (hs : n ≤ 9223372036854775807) :
    Calls Try.prog 32 #[.int .i64 n] w fun e w' => e = .returned (.int .i64 (L.sizeOf n)) ∧ w = w' := by
  go_enter Try.func32, Try.ntmps32
  go_wp2
  go_loopg [0, 3] (n.toNat) (fun g s0 s3 wr => ∃ (st0 : Int × Int), s3 = .int .i64 st0.1 ∧ s0 = .int .i64 st0.2 ∧ w = wr ∧ Aside (wh g (L.sizeOf_L0_c n) (L.sizeOf_L0 n) st0 = (wh n.toNat (L.sizeOf_L0_c n) (L.sizeOf_L0 n) (0, n))) ∧ st0.2 ≤ 9223372036854775807)
  case atStart =>
    exact ⟨(0, n), rfl, rfl, rfl, rfl, hs⟩
  case round =>
    obtain ⟨g0, rfl⟩ : ∃ g : Nat, g = gk := ⟨_, rfl⟩
    obtain ⟨st0, rfl, rfl, rfl, ha0, hinv0⟩ := hrel
    rcases Bool.eq_false_or_eq_true ((L.sizeOf_L0_c n) st0) with hw0 | hw0
    · obtain ⟨g0', rfl⟩ : ∃ g', g0 = g' + 1 := wh_more ha0.out hw0 (L.sizeOf_end n)
      have hu0 := hw0; simp [L.sizeOf_L0_c] at hu0
      have hv0 : Aside ((L.sizeOf_L0_c n) st0 = true) := hw0; clear hw0
      go_wp2
      all_goals (first
        | (go_roundg g0'; (case measure => omega); (case rel => exact ⟨((L.sizeOf_L0 n) st0), val_int (by first | rfl | (simp [L.sizeOf_L0, L.sizeOf_L0_c, *]; done) | (go_light; simp [L.sizeOf_L0, L.sizeOf_L0_c, *]; done) | (go_light; simp [L.sizeOf_L0, L.sizeOf_L0_c, *]; omega)), val_int (by first | rfl | (simp [L.sizeOf_L0, L.sizeOf_L0_c, *]; done) | (go_light; simp [L.sizeOf_L0, L.sizeOf_L0_c, *]; done) | (go_light; simp [L.sizeOf_L0, L.sizeOf_L0_c, *]; omega)), rfl, wh_step ha0.out hv0.out, by simp only [L.sizeOf_L0]; omega⟩))
        | (go_ret; refine ⟨ret_int ?_, rfl⟩; exact (by first | rfl | (simp [L.sizeOf, *]; done) | (go_light; simp [L.sizeOf, *]; done) | (go_light; simp [L.sizeOf, *]; omega)))
        | (exfalso; go_light; simp_all; done))
    · have hz0 := wh_done ha0.out hw0
      have hu0 := hw0; simp [L.sizeOf_L0_c] at hu0
      have ha0 : Aside ((wh n.toNat (L.sizeOf_L0_c n) (L.sizeOf_L0 n) (0, n)) = st0) := hz0; clear hz0 hw0
      go_wp2
      all_goals (first
        | (go_ret; refine ⟨ret_int ?_, rfl⟩; exact (by first | rfl | (simp [L.sizeOf, ha0.out, *]; done) | (go_light; simp [L.sizeOf, ha0.out, *]; done) | (go_light; simp [L.sizeOf, ha0.out, *]; omega)))
        | (exfalso; go_light; simp_all; done))

-- laws.namedSet
theorem L.namedSet_calls {set_ : Int} {order : List Int} {a_order : Option Addr} {c_order : Nat} {w : World} (r_order : Row w a_order order) (h6 : order.length ≤ 6) (hr : ∀ k, k < order.length → 0 ≤ el order k ∧ el order k ≤ 63) :
    Calls Try.prog 46 #[.int .i64 set_, .slice a_order order.length c_order] w fun e w' => e = .returned (.int .i64 (L.namedSet set_ order)) ∧ ∃ m, w.drewN m = w' := by
  have le_order := r_order.le
  go_enter Try.func46, Try.ntmps46
  go_wp2
  all_goals (try (go_quiet (fail); go_wp2))
  all_goals (try (go_quiet (fail); go_wp2))
  go_loopg [5, 6] (order.length) (fun g s5 s6 wr => ∃ (k0 : Nat) (st0 : Int), k0 + g = order.length ∧ s6 = .int .i64 (k0 : Int) ∧ s5 = .int .i64 st0 ∧ (∃ m, w.drewN m = wr) ∧ Aside (fold k0 (L.namedSet_L0 set_ order) 0 = st0))
  case atStart =>
    exact ⟨0, 0, by omega, by go_num, rfl, (by first | exact ⟨_, rfl⟩ | exact ⟨0, rfl⟩ | (simp only [World.drewN_drewN, World.drew_drewN, World.drewN_drew]; exact ⟨_, rfl⟩)), fold_zero _ _⟩
  case round =>
    obtain ⟨g0, rfl⟩ : ∃ g : Nat, g = gk := ⟨_, rfl⟩
    obtain ⟨k0, st0, hk0, rfl, rfl, ⟨m0, rfl⟩, ha0⟩ := hrel
    by_cases hlt0 : k0 < order.length
    · have hrk := hr k0 hlt0
      obtain ⟨b_order, o_order, rfl, hc_order⟩ := r_order.get hlt0
      have hc_order_k0 := hc_order k0 hlt0
      go_wp2
      all_goals (try (go_quiet (fail); go_wp2))
      all_goals (try (go_quiet (fail); go_wp2))
      all_goals (first
        | (go_roundg (g0 - 1); (case measure => omega); (case rel => exact ⟨k0 + 1, ((L.namedSet_L0 set_ order) st0 k0), by omega, by go_num, val_int (by first | rfl | (simp [L.namedSet_L0, *]; done) | (go_light; simp [L.namedSet_L0, *]; done) | (go_light; simp [L.namedSet_L0, *]; omega)), (by first | exact ⟨_, rfl⟩ | exact ⟨0, rfl⟩ | (simp only [World.drewN_drewN, World.drew_drewN, World.drewN_drew]; exact ⟨_, rfl⟩)), (fold_succ _ _ _).trans (by rw [ha0.out])⟩))
        | (go_ret; refine ⟨ret_int ?_, ?_⟩; (· exact (by first | rfl | (simp [L.namedSet, *]; done) | (go_light; simp [L.namedSet, *]; done) | (go_light; simp [L.namedSet, *]; omega))); exact (by first | exact ⟨_, rfl⟩ | exact ⟨0, rfl⟩ | (simp only [World.drewN_drewN, World.drew_drewN, World.drewN_drew]; exact ⟨_, rfl⟩))))
    · obtain rfl : k0 = order.length := by omega
      go_wp2
      all_goals (try (go_quiet (fail); go_wp2))
      all_goals (try (go_quiet (fail); go_wp2))
      all_goals (first
        | (go_ret; refine ⟨ret_int ?_, ?_⟩; (· exact (by first | rfl | (simp [L.namedSet, ha0.out, *]; done) | (go_light; simp [L.namedSet, ha0.out, *]; done) | (go_light; simp [L.namedSet, ha0.out, *]; omega))); exact (by first | exact ⟨_, rfl⟩ | exact ⟨0, rfl⟩ | (simp only [World.drewN_drewN, World.drew_drewN, World.drewN_drew]; exact ⟨_, rfl⟩))))

end Go.Proofs.Ytpgcbaaopeinkaa
