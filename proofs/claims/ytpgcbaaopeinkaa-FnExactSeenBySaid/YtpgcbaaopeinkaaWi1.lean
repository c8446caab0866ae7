/- Each Go function (i1) returns what its plain twin returns. Conditions: those of each theorem. -/
import Derived.Test.YtpgcbaaopeinkaaChecked
import Derived.Test.YtpgcbaaopeinkaaPi1
import Derived.Test.YtpgcbaaopeinkaaM1
namespace Go.Proofs.Ytpgcbaaopeinkaa
open Go.RowKit
set_option linter.unusedVariables false
set_option linter.unusedSimpArgs false

-- impl.hasPlace
theorem I.hasPlace_calls {set_ : Int} {place : Int} {w : World} (h0 : 0 ≤ place) (h1 : place ≤ 63) :
    Calls Try.prog 54 #[.int .i64 set_, .int .i64 place] w fun e w' => e = .returned (.bool (I.hasPlace set_ place)) ∧ w = w' := by
  go_enter Try.func54, Try.ntmps54
  go_wp2
  all_goals (first
    | (go_ret; refine ⟨ret_bool ?_, rfl⟩; exact (by first | rfl | (simp [I.hasPlace, *]; done) | (go_light; simp [I.hasPlace, *]; done) | (go_light; simp [I.hasPlace, *]; omega))))

-- impl.placeIn
theorem I.placeIn_calls {net : List Int} {a_net : Option Addr} {c_net : Nat} {place : Int} {w : World} (r_net : Row w a_net net) :
    Calls Try.prog 58 #[.slice a_net net.length c_net, .int .i64 place] w fun e w' => e = .returned (.bool (I.placeIn net place)) ∧ w = w' := by
  have le_net := r_net.le
  go_enter Try.func58, Try.ntmps58
  go_wp2
  all_goals (first
    | (go_ret; refine ⟨ret_bool ?_, rfl⟩; exact (by first | rfl | (simp [I.placeIn, *]; done) | (go_light; simp [I.placeIn, *]; done) | (go_light; simp [I.placeIn, *]; omega))))

-- impl.setIn
theorem I.setIn_calls {net : List Int} {a_net : Option Addr} {c_net : Nat} {set_ : Int} {w : World} (r_net : Row w a_net net) :
    Calls Try.prog 53 #[.slice a_net net.length c_net, .int .i64 set_] w fun e w' => e = .returned (.bool (I.setIn net set_)) ∧ w = w' := by
  have le_net := r_net.le
  go_enter Try.func53, Try.ntmps53
  go_wp2
  all_goals (first
    | (go_ret; refine ⟨ret_bool ?_, rfl⟩; exact (by first | rfl | (simp [I.setIn, *]; done) | (go_light; simp [I.setIn, *]; done) | (go_light; simp [I.setIn, *]; omega))))

-- impl.sizeOf
theorem I.sizeOf_calls {set_ : Int} {w : World}  :
    Calls Try.prog 64 #[.int .i64 set_] w fun e w' => e = .returned (.int .i64 (I.sizeOf set_)) ∧ w = w' := by
  go_enter Try.func64, Try.ntmps64
  go_wp2
  go_loopg [3, 4] (6) (fun g s3 s4 wr => ∃ (k0 : Nat) (st0 : Int), k0 + g = 6 ∧ s4 = .int .i64 (k0 : Int) ∧ s3 = .int .i64 st0 ∧ w = wr ∧ Aside (fold k0 (I.sizeOf_L0 set_) 0 = st0))
  case atStart =>
    exact ⟨0, 0, by omega, by go_num, rfl, rfl, fold_zero _ _⟩
  case round =>
    obtain ⟨g0, rfl⟩ : ∃ g : Nat, g = gk := ⟨_, rfl⟩
    obtain ⟨k0, st0, hk0, rfl, rfl, rfl, ha0⟩ := hrel
    by_cases hlt0 : k0 < 6
    · go_wp2
      all_goals (first
        | (go_roundg (g0 - 1); (case measure => omega); (case rel => exact ⟨k0 + 1, ((I.sizeOf_L0 set_) st0 k0), by omega, by go_num, val_int (by first | rfl | (simp [I.sizeOf_L0, *]; done) | (go_light; simp [I.sizeOf_L0, *]; done) | (go_light; simp [I.sizeOf_L0, *]; omega)), rfl, (fold_succ _ _ _).trans (by rw [ha0.out])⟩))
        | (go_ret; refine ⟨ret_int ?_, rfl⟩; exact (by first | rfl | (simp [I.sizeOf, *]; done) | (go_light; simp [I.sizeOf, *]; done) | (go_light; simp [I.sizeOf, *]; omega))))
    · obtain rfl : k0 = 6 := by omega
      go_wp2
      all_goals (first
        | (go_ret; refine ⟨ret_int ?_, rfl⟩; exact (by first | rfl | (simp [I.sizeOf, ha0.out, *]; done) | (go_light; simp [I.sizeOf, ha0.out, *]; done) | (go_light; simp [I.sizeOf, ha0.out, *]; omega))))

-- impl.knownBack
theorem I.knownBack_calls {net : List Int} {a_net : Option Addr} {c_net : Nat} {place : Int} {w : World} (r_net : Row w a_net net) (h0 : 0 ≤ place) (h1 : place < (net.length : Int)) (h6 : net.length ≤ 6) :
    Calls Try.prog 55 #[.slice a_net net.length c_net, .int .i64 place] w fun e w' => e = .returned (.bool (I.knownBack net place)) ∧ w = w' := by
  have le_net := r_net.le
  obtain ⟨b_net, o_net, rfl, hc_net⟩ := r_net.get (show place.toNat < net.length by omega)
  have hc_p := hc_net place.toNat (by omega)
  go_enter Try.func55, Try.ntmps55
  go_wp2_with (first | (go_at_call 54; refine (I.hasPlace_calls (by first | assumption | omega | exact Row.drewN (by assumption) _) (by first | assumption | omega | exact Row.drewN (by assumption) _)).mono ?_; rintro e w' ⟨rfl, rfl⟩))
  go_loopg [5] (net.length) (fun g s5 wr => ∃ (k0 : Nat), k0 + g = net.length ∧ s5 = .int .i64 (k0 : Int) ∧ w = wr ∧ Aside (find k0 (I.knownBack_L0 net place) = none))
  case atStart =>
    exact ⟨0, by omega, by go_num, rfl, find_zero _⟩
  case round =>
    obtain ⟨g0, rfl⟩ : ∃ g : Nat, g = gk := ⟨_, rfl⟩
    obtain ⟨k0, hk0, rfl, rfl, ha0⟩ := hrel
    by_cases hlt0 : k0 < net.length
    · have hc_net_k0 := hc_net k0 hlt0
      go_wp2_with (first | (go_at_call 54; refine (I.hasPlace_calls (by first | assumption | omega | exact Row.drewN (by assumption) _) (by first | assumption | omega | exact Row.drewN (by assumption) _)).mono ?_; rintro e w' ⟨rfl, rfl⟩))
      all_goals (first
        | (go_roundg (g0 - 1); (case measure => omega); (case rel => exact ⟨k0 + 1, by omega, by go_num, rfl, find_none_succ ha0.out (by first | rfl | (simp [I.knownBack_L0, *]; done) | (go_light; simp [I.knownBack_L0, *]; done) | (go_light; simp [I.knownBack_L0, *]; omega))⟩))
        | (have fi0 : (find net.length (I.knownBack_L0 net place)) = some false := find_some_of hlt0 ha0.out (by first | rfl | (simp [I.knownBack_L0, *]; done) | (go_light; simp [I.knownBack_L0, *]; done) | (go_light; simp [I.knownBack_L0, *]; omega)); go_ret; refine ⟨ret_bool ?_, rfl⟩; exact (by first | rfl | (simp [I.knownBack, fi0, *]; done) | (go_light; simp [I.knownBack, fi0, *]; done) | (go_light; simp [I.knownBack, fi0, *]; omega))))
    · obtain rfl : k0 = net.length := by omega
      go_wp2_with (first | (go_at_call 54; refine (I.hasPlace_calls (by first | assumption | omega | exact Row.drewN (by assumption) _) (by first | assumption | omega | exact Row.drewN (by assumption) _)).mono ?_; rintro e w' ⟨rfl, rfl⟩))
      all_goals (first
        | (go_ret; refine ⟨ret_bool ?_, rfl⟩; exact (by first | rfl | (simp [I.knownBack, ha0.out, *]; done) | (go_light; simp [I.knownBack, ha0.out, *]; done) | (go_light; simp [I.knownBack, ha0.out, *]; omega))))

-- impl.NetOk
theorem I.NetOk_calls {net : List Int} {a_net : Option Addr} {c_net : Nat} {w : World} (r_net : Row w a_net net) :
    Calls Try.prog 20 #[.slice a_net net.length c_net] w fun e w' => e = .returned (.bool (I.NetOk net)) ∧ w = w' := by
  have le_net := r_net.le
  go_enter Try.func20, Try.ntmps20
  go_wp2_with (first | (go_at_call 53; refine (I.setIn_calls (by first | assumption | omega | exact Row.drewN (by assumption) _)).mono ?_; rintro e w' ⟨rfl, rfl⟩) | (go_at_call 54; refine (I.hasPlace_calls (by first | assumption | omega | exact Row.drewN (by assumption) _) (by first | assumption | omega | exact Row.drewN (by assumption) _)).mono ?_; rintro e w' ⟨rfl, rfl⟩) | (go_at_call 55; refine (I.knownBack_calls (by first | assumption | omega | exact Row.drewN (by assumption) _) (by first | assumption | omega | exact Row.drewN (by assumption) _) (by first | assumption | omega | exact Row.drewN (by assumption) _) (by first | assumption | omega | exact Row.drewN (by assumption) _)).mono ?_; rintro e w' ⟨rfl, rfl⟩))
  all_goals (try (first
    | (go_ret; refine ⟨ret_bool ?_, rfl⟩; exact (by first | rfl | (simp [I.NetOk, *]; done) | (go_light; simp [I.NetOk, *]; done) | (go_light; simp [I.NetOk, *]; omega)))))
  go_loopg [3] (net.length) (fun g s3 wr => ∃ (k0 : Nat), k0 + g = net.length ∧ s3 = .int .i64 (k0 : Int) ∧ w = wr ∧ Aside (find k0 (I.NetOk_L0 net) = none))
  case atStart =>
    exact ⟨0, by omega, by go_num, rfl, find_zero _⟩
  case round =>
    obtain ⟨g0, rfl⟩ : ∃ g : Nat, g = gk := ⟨_, rfl⟩
    obtain ⟨k0, hk0, rfl, rfl, ha0⟩ := hrel
    by_cases hlt0 : k0 < net.length
    · obtain ⟨b_net, o_net, rfl, hc_net⟩ := r_net.get hlt0
      have hc_net_k0 := hc_net k0 hlt0
      go_wp2_with (first | (go_at_call 53; refine (I.setIn_calls (by first | assumption | omega | exact Row.drewN (by assumption) _)).mono ?_; rintro e w' ⟨rfl, rfl⟩) | (go_at_call 54; refine (I.hasPlace_calls (by first | assumption | omega | exact Row.drewN (by assumption) _) (by first | assumption | omega | exact Row.drewN (by assumption) _)).mono ?_; rintro e w' ⟨rfl, rfl⟩) | (go_at_call 55; refine (I.knownBack_calls (by first | assumption | omega | exact Row.drewN (by assumption) _) (by first | assumption | omega | exact Row.drewN (by assumption) _) (by first | assumption | omega | exact Row.drewN (by assumption) _) (by first | assumption | omega | exact Row.drewN (by assumption) _)).mono ?_; rintro e w' ⟨rfl, rfl⟩))
      all_goals (first
        | (go_roundg (g0 - 1); (case measure => omega); (case rel => exact ⟨k0 + 1, by omega, by go_num, rfl, find_none_succ ha0.out (by first | rfl | (simp [I.NetOk_L0, *]; done) | (go_light; simp [I.NetOk_L0, *]; done) | (go_light; simp [I.NetOk_L0, *]; omega))⟩))
        | (have fi0 : (find net.length (I.NetOk_L0 net)) = some false := find_some_of hlt0 ha0.out (by first | rfl | (simp [I.NetOk_L0, *]; done) | (go_light; simp [I.NetOk_L0, *]; done) | (go_light; simp [I.NetOk_L0, *]; omega)); go_ret; refine ⟨ret_bool ?_, rfl⟩; exact (by first | rfl | (simp [I.NetOk, fi0, *]; done) | (go_light; simp [I.NetOk, fi0, *]; done) | (go_light; simp [I.NetOk, fi0, *]; omega))))
    · obtain rfl : k0 = net.length := by omega
      go_wp2_with (first | (go_at_call 53; refine (I.setIn_calls (by first | assumption | omega | exact Row.drewN (by assumption) _)).mono ?_; rintro e w' ⟨rfl, rfl⟩) | (go_at_call 54; refine (I.hasPlace_calls (by first | assumption | omega | exact Row.drewN (by assumption) _) (by first | assumption | omega | exact Row.drewN (by assumption) _)).mono ?_; rintro e w' ⟨rfl, rfl⟩) | (go_at_call 55; refine (I.knownBack_calls (by first | assumption | omega | exact Row.drewN (by assumption) _) (by first | assumption | omega | exact Row.drewN (by assumption) _) (by first | assumption | omega | exact Row.drewN (by assumption) _) (by first | assumption | omega | exact Row.drewN (by assumption) _)).mono ?_; rintro e w' ⟨rfl, rfl⟩))
      all_goals (first
        | (go_ret; refine ⟨ret_bool ?_, rfl⟩; exact (by first | rfl | (simp [I.NetOk, ha0.out, *]; done) | (go_light; simp [I.NetOk, ha0.out, *]; done) | (go_light; simp [I.NetOk, ha0.out, *]; omega))))

-- impl.ballIn
theorem I.ballIn_calls {net : List Int} {a_net : Option Addr} {c_net : Nat} {place : Int} {w : World} (r_net : Row w a_net net) (h0 : 0 ≤ place) (h1 : place < (net.length : Int)) (h6 : net.length ≤ 6) :
    Calls Try.prog 59 #[.slice a_net net.length c_net, .int .i64 place] w fun e w' => e = .returned (.int .i64 (I.ballIn net place)) ∧ ∃ m, w.drewN m = w' := by
  have le_net := r_net.le
  obtain ⟨b_net, o_net, rfl, hc_net⟩ := r_net.get (show place.toNat < net.length by omega)
  have hc_p := hc_net place.toNat (by omega)
  go_enter Try.func59, Try.ntmps59
  go_wp2
  all_goals (try (go_quiet (fail); go_wp2))
  all_goals (try (go_quiet (fail); go_wp2))
  all_goals (first
    | (go_ret; refine ⟨ret_int ?_, ?_⟩; (· exact (by first | rfl | (simp [I.ballIn, *]; done) | (go_light; simp [I.ballIn, *]; done) | (go_light; simp [I.ballIn, *]; omega))); exact (by first | exact ⟨_, rfl⟩ | exact ⟨0, rfl⟩ | (simp only [World.drewN_drewN, World.drew_drewN, World.drewN_drew]; exact ⟨_, rfl⟩))))

-- impl.BallOf
theorem I.BallOf_calls {net : List Int} {a_net : Option Addr} {c_net : Nat} {place : Int} {w : World} (r_net : Row w a_net net) :
    Calls Try.prog 23 #[.slice a_net net.length c_net, .int .i64 place] w fun e w' => e = .returned (.int .i64 (I.BallOf net place)) ∧ ∃ m, w.drewN m = w' := by
  have le_net := r_net.le
  rcases Bool.eq_false_or_eq_true (I.NetOk net) with hN | hN
  · have hf := I.NetOk_len hN
    rcases Bool.eq_false_or_eq_true (I.placeIn net place) with hP | hP
    · have hp := I.placeIn_iff hP
      go_enter Try.func23, Try.ntmps23
      go_wp2_with (first | (go_at_call 20; refine (I.NetOk_calls (by first | assumption | omega | exact Row.drewN (by assumption) _)).mono ?_; rintro e w' ⟨rfl, rfl⟩) | (go_at_call 58; refine (I.placeIn_calls (by first | assumption | omega | exact Row.drewN (by assumption) _)).mono ?_; rintro e w' ⟨rfl, rfl⟩) | (go_at_call 59; refine (I.ballIn_calls (by first | assumption | omega | exact Row.drewN (by assumption) _) (by first | assumption | omega | exact Row.drewN (by assumption) _) (by first | assumption | omega | exact Row.drewN (by assumption) _) (by first | assumption | omega | exact Row.drewN (by assumption) _)).mono ?_; rintro e w' ⟨rfl, m, rfl⟩))
      all_goals (first
        | (go_ret; refine ⟨ret_int ?_, ?_⟩; (· exact (by first | rfl | (simp [I.BallOf, *]; done) | (go_light; simp [I.BallOf, *]; done) | (go_light; simp [I.BallOf, *]; omega))); exact (by first | exact ⟨_, rfl⟩ | exact ⟨0, rfl⟩ | (simp only [World.drewN_drewN, World.drew_drewN, World.drewN_drew]; exact ⟨_, rfl⟩))))
    · skip
      go_enter Try.func23, Try.ntmps23
      go_wp2_with (first | (go_at_call 20; refine (I.NetOk_calls (by first | assumption | omega | exact Row.drewN (by assumption) _)).mono ?_; rintro e w' ⟨rfl, rfl⟩) | (go_at_call 58; refine (I.placeIn_calls (by first | assumption | omega | exact Row.drewN (by assumption) _)).mono ?_; rintro e w' ⟨rfl, rfl⟩) | (go_at_call 59; refine (I.ballIn_calls (by first | assumption | omega | exact Row.drewN (by assumption) _) (by first | assumption | omega | exact Row.drewN (by assumption) _) (by first | assumption | omega | exact Row.drewN (by assumption) _) (by first | assumption | omega | exact Row.drewN (by assumption) _)).mono ?_; rintro e w' ⟨rfl, m, rfl⟩))
      all_goals (first
        | (go_ret; refine ⟨ret_int ?_, ?_⟩; (· exact (by first | rfl | (simp [I.BallOf, *]; done) | (go_light; simp [I.BallOf, *]; done) | (go_light; simp [I.BallOf, *]; omega))); exact (by first | exact ⟨_, rfl⟩ | exact ⟨0, rfl⟩ | (simp only [World.drewN_drewN, World.drew_drewN, World.drewN_drew]; exact ⟨_, rfl⟩))))
  · skip
    go_enter Try.func23, Try.ntmps23
    go_wp2_with (first | (go_at_call 20; refine (I.NetOk_calls (by first | assumption | omega | exact Row.drewN (by assumption) _)).mono ?_; rintro e w' ⟨rfl, rfl⟩) | (go_at_call 58; refine (I.placeIn_calls (by first | assumption | omega | exact Row.drewN (by assumption) _)).mono ?_; rintro e w' ⟨rfl, rfl⟩) | (go_at_call 59; refine (I.ballIn_calls (by first | assumption | omega | exact Row.drewN (by assumption) _) (by first | assumption | omega | exact Row.drewN (by assumption) _) (by first | assumption | omega | exact Row.drewN (by assumption) _) (by first | assumption | omega | exact Row.drewN (by assumption) _)).mono ?_; rintro e w' ⟨rfl, m, rfl⟩))
    all_goals (first
      | (go_ret; refine ⟨ret_int ?_, ?_⟩; (· exact (by first | rfl | (simp [I.BallOf, *]; done) | (go_light; simp [I.BallOf, *]; done) | (go_light; simp [I.BallOf, *]; omega))); exact (by first | exact ⟨_, rfl⟩ | exact ⟨0, rfl⟩ | (simp only [World.drewN_drewN, World.drew_drewN, World.drewN_drew]; exact ⟨_, rfl⟩))))

-- impl.seenIn
theorem I.seenIn_calls {net : List Int} {a_net : Option Addr} {c_net : Nat} {set_ : Int} {w : World} (r_net : Row w a_net net) (h6 : net.length ≤ 6) :
    Calls Try.prog 61 #[.slice a_net net.length c_net, .int .i64 set_] w fun e w' => e = .returned (.int .i64 (I.seenIn net set_)) ∧ ∃ m, w.drewN m = w' := by
  have le_net := r_net.le
  go_enter Try.func61, Try.ntmps61
  go_wp2_with (first | (go_at_call 54; refine (I.hasPlace_calls (by first | assumption | omega | exact Row.drewN (by assumption) _) (by first | assumption | omega | exact Row.drewN (by assumption) _)).mono ?_; rintro e w' ⟨rfl, rfl⟩) | (go_at_call 59; refine (I.ballIn_calls (by first | assumption | omega | exact Row.drewN (by assumption) _) (by first | assumption | omega | exact Row.drewN (by assumption) _) (by first | assumption | omega | exact Row.drewN (by assumption) _) (by first | assumption | omega | exact Row.drewN (by assumption) _)).mono ?_; rintro e w' ⟨rfl, m, rfl⟩))
  go_loopg [5, 6] (net.length) (fun g s5 s6 wr => ∃ (k0 : Nat) (st0 : Int), k0 + g = net.length ∧ s6 = .int .i64 (k0 : Int) ∧ s5 = .int .i64 st0 ∧ (∃ m, w.drewN m = wr) ∧ Aside (fold k0 (I.seenIn_L0 net set_) 0 = st0))
  case atStart =>
    exact ⟨0, 0, by omega, by go_num, rfl, (by first | exact ⟨_, rfl⟩ | exact ⟨0, rfl⟩ | (simp only [World.drewN_drewN, World.drew_drewN, World.drewN_drew]; exact ⟨_, rfl⟩)), fold_zero _ _⟩
  case round =>
    obtain ⟨g0, rfl⟩ : ∃ g : Nat, g = gk := ⟨_, rfl⟩
    obtain ⟨k0, st0, hk0, rfl, rfl, ⟨m0, rfl⟩, ha0⟩ := hrel
    by_cases hlt0 : k0 < net.length
    · go_wp2_with (first | (go_at_call 54; refine (I.hasPlace_calls (by first | assumption | omega | exact Row.drewN (by assumption) _) (by first | assumption | omega | exact Row.drewN (by assumption) _)).mono ?_; rintro e w' ⟨rfl, rfl⟩) | (go_at_call 59; refine (I.ballIn_calls (by first | assumption | omega | exact Row.drewN (by assumption) _) (by first | assumption | omega | exact Row.drewN (by assumption) _) (by first | assumption | omega | exact Row.drewN (by assumption) _) (by first | assumption | omega | exact Row.drewN (by assumption) _)).mono ?_; rintro e w' ⟨rfl, m, rfl⟩))
      all_goals (first
        | (go_roundg (g0 - 1); (case measure => omega); (case rel => exact ⟨k0 + 1, ((I.seenIn_L0 net set_) st0 k0), by omega, by go_num, val_int (by first | rfl | (simp [I.seenIn_L0, *]; done) | (go_light; simp [I.seenIn_L0, *]; done) | (go_light; simp [I.seenIn_L0, *]; omega)), (by first | exact ⟨_, rfl⟩ | exact ⟨0, rfl⟩ | (simp only [World.drewN_drewN, World.drew_drewN, World.drewN_drew]; exact ⟨_, rfl⟩)), (fold_succ _ _ _).trans (by rw [ha0.out])⟩))
        | (go_ret; refine ⟨ret_int ?_, ?_⟩; (· exact (by first | rfl | (simp [I.seenIn, *]; done) | (go_light; simp [I.seenIn, *]; done) | (go_light; simp [I.seenIn, *]; omega))); exact (by first | exact ⟨_, rfl⟩ | exact ⟨0, rfl⟩ | (simp only [World.drewN_drewN, World.drew_drewN, World.drewN_drew]; exact ⟨_, rfl⟩))))
    · obtain rfl : k0 = net.length := by omega
      go_wp2_with (first | (go_at_call 54; refine (I.hasPlace_calls (by first | assumption | omega | exact Row.drewN (by assumption) _) (by first | assumption | omega | exact Row.drewN (by assumption) _)).mono ?_; rintro e w' ⟨rfl, rfl⟩) | (go_at_call 59; refine (I.ballIn_calls (by first | assumption | omega | exact Row.drewN (by assumption) _) (by first | assumption | omega | exact Row.drewN (by assumption) _) (by first | assumption | omega | exact Row.drewN (by assumption) _) (by first | assumption | omega | exact Row.drewN (by assumption) _)).mono ?_; rintro e w' ⟨rfl, m, rfl⟩))
      all_goals (first
        | (go_ret; refine ⟨ret_int ?_, ?_⟩; (· exact (by first | rfl | (simp [I.seenIn, ha0.out, *]; done) | (go_light; simp [I.seenIn, ha0.out, *]; done) | (go_light; simp [I.seenIn, ha0.out, *]; omega))); exact (by first | exact ⟨_, rfl⟩ | exact ⟨0, rfl⟩ | (simp only [World.drewN_drewN, World.drew_drewN, World.drewN_drew]; exact ⟨_, rfl⟩))))

-- impl.SeenBy
theorem I.SeenBy_calls {net : List Int} {a_net : Option Addr} {c_net : Nat} {set_ : Int} {w : World} (r_net : Row w a_net net) :
    Calls Try.prog 27 #[.slice a_net net.length c_net, .int .i64 set_] w fun e w' => e = .returned (.int .i64 (I.SeenBy net set_)) ∧ ∃ m, w.drewN m = w' := by
  have le_net := r_net.le
  rcases Bool.eq_false_or_eq_true (I.NetOk net) with hN | hN
  · have hf := I.NetOk_len hN
    go_enter Try.func27, Try.ntmps27
    go_wp2_with (first | (go_at_call 20; refine (I.NetOk_calls (by first | assumption | omega | exact Row.drewN (by assumption) _)).mono ?_; rintro e w' ⟨rfl, rfl⟩) | (go_at_call 53; refine (I.setIn_calls (by first | assumption | omega | exact Row.drewN (by assumption) _)).mono ?_; rintro e w' ⟨rfl, rfl⟩) | (go_at_call 61; refine (I.seenIn_calls (by first | assumption | omega | exact Row.drewN (by assumption) _) (by first | assumption | omega | exact Row.drewN (by assumption) _)).mono ?_; rintro e w' ⟨rfl, m, rfl⟩))
    all_goals (first
      | (go_ret; refine ⟨ret_int ?_, ?_⟩; (· exact (by first | rfl | (simp [I.SeenBy, *]; done) | (go_light; simp [I.SeenBy, *]; done) | (go_light; simp [I.SeenBy, *]; omega))); exact (by first | exact ⟨_, rfl⟩ | exact ⟨0, rfl⟩ | (simp only [World.drewN_drewN, World.drew_drewN, World.drewN_drew]; exact ⟨_, rfl⟩))))
  · skip
    go_enter Try.func27, Try.ntmps27
    go_wp2_with (first | (go_at_call 20; refine (I.NetOk_calls (by first | assumption | omega | exact Row.drewN (by assumption) _)).mono ?_; rintro e w' ⟨rfl, rfl⟩) | (go_at_call 53; refine (I.setIn_calls (by first | assumption | omega | exact Row.drewN (by assumption) _)).mono ?_; rintro e w' ⟨rfl, rfl⟩) | (go_at_call 61; refine (I.seenIn_calls (by first | assumption | omega | exact Row.drewN (by assumption) _) (by first | assumption | omega | exact Row.drewN (by assumption) _)).mono ?_; rintro e w' ⟨rfl, m, rfl⟩))
    all_goals (first
      | (go_ret; refine ⟨ret_int ?_, ?_⟩; (· exact (by first | rfl | (simp [I.SeenBy, *]; done) | (go_light; simp [I.SeenBy, *]; done) | (go_light; simp [I.SeenBy, *]; omega))); exact (by first | exact ⟨_, rfl⟩ | exact ⟨0, rfl⟩ | (simp only [World.drewN_drewN, World.drew_drewN, World.drewN_drew]; exact ⟨_, rfl⟩))))

-- impl.WiresOf
theorem I.WiresOf_calls {net : List Int} {a_net : Option Addr} {c_net : Nat} {w : World} (r_net : Row w a_net net) :
    Calls Try.prog 30 #[.slice a_net net.length c_net] w fun e w' => e = .returned (.int .i64 (I.WiresOf net)) ∧ w = w' := by
  have le_net := r_net.le
  rcases Bool.eq_false_or_eq_true (I.NetOk net) with hN | hN
  · have hf := I.NetOk_len hN
    go_enter Try.func30, Try.ntmps30
    go_wp2_with (first | (go_at_call 20; refine (I.NetOk_calls (by first | assumption | omega | exact Row.drewN (by assumption) _)).mono ?_; rintro e w' ⟨rfl, rfl⟩) | (go_at_call 64; refine (I.sizeOf_calls ).mono ?_; rintro e w' ⟨rfl, rfl⟩))
    all_goals (try (first
      | (go_ret; refine ⟨ret_int ?_, rfl⟩; exact (by first | rfl | (simp [I.WiresOf, *]; done) | (go_light; simp [I.WiresOf, *]; done) | (go_light; simp [I.WiresOf, *]; omega)))))
    go_loopg [3, 4] (net.length) (fun g s3 s4 wr => ∃ (k0 : Nat) (st0 : Int), k0 + g = net.length ∧ s4 = .int .i64 (k0 : Int) ∧ s3 = .int .i64 st0 ∧ w = wr ∧ Aside (fold k0 (I.WiresOf_L0 net) 0 = st0))
    case atStart =>
      exact ⟨0, 0, by omega, by go_num, rfl, rfl, fold_zero _ _⟩
    case round =>
      obtain ⟨g0, rfl⟩ : ∃ g : Nat, g = gk := ⟨_, rfl⟩
      obtain ⟨k0, st0, hk0, rfl, rfl, rfl, ha0⟩ := hrel
      by_cases hlt0 : k0 < net.length
      · obtain ⟨b_net, o_net, rfl, hc_net⟩ := r_net.get hlt0
        have hc_net_k0 := hc_net k0 hlt0
        go_wp2_with (first | (go_at_call 20; refine (I.NetOk_calls (by first | assumption | omega | exact Row.drewN (by assumption) _)).mono ?_; rintro e w' ⟨rfl, rfl⟩) | (go_at_call 64; refine (I.sizeOf_calls ).mono ?_; rintro e w' ⟨rfl, rfl⟩))
        all_goals (first
          | (go_roundg (g0 - 1); (case measure => omega); (case rel => exact ⟨k0 + 1, ((I.WiresOf_L0 net) st0 k0), by omega, by go_num, val_int (by first | rfl | (simp [I.WiresOf_L0, *]; done) | (go_light; simp [I.WiresOf_L0, *]; done) | (go_light; simp [I.WiresOf_L0, *]; omega)), rfl, (fold_succ _ _ _).trans (by rw [ha0.out])⟩))
          | (go_ret; refine ⟨ret_int ?_, rfl⟩; exact (by first | rfl | (simp [I.WiresOf, *]; done) | (go_light; simp [I.WiresOf, *]; done) | (go_light; simp [I.WiresOf, *]; omega))))
      · obtain rfl : k0 = net.length := by omega
        go_wp2_with (first | (go_at_call 20; refine (I.NetOk_calls (by first | assumption | omega | exact Row.drewN (by assumption) _)).mono ?_; rintro e w' ⟨rfl, rfl⟩) | (go_at_call 64; refine (I.sizeOf_calls ).mono ?_; rintro e w' ⟨rfl, rfl⟩))
        all_goals (first
          | (go_ret; refine ⟨ret_int ?_, rfl⟩; exact (by first | rfl | (simp [I.WiresOf, ha0.out, *]; done) | (go_light; simp [I.WiresOf, ha0.out, *]; done) | (go_light; simp [I.WiresOf, ha0.out, *]; omega))))
  · skip
    go_enter Try.func30, Try.ntmps30
    go_wp2_with (first | (go_at_call 20; refine (I.NetOk_calls (by first | assumption | omega | exact Row.drewN (by assumption) _)).mono ?_; rintro e w' ⟨rfl, rfl⟩) | (go_at_call 64; refine (I.sizeOf_calls ).mono ?_; rintro e w' ⟨rfl, rfl⟩))
    all_goals (first
      | (go_ret; refine ⟨ret_int ?_, rfl⟩; exact (by first | rfl | (simp [I.WiresOf, *]; done) | (go_light; simp [I.WiresOf, *]; done) | (go_light; simp [I.WiresOf, *]; omega))))

-- impl.partIn
theorem I.partIn_calls {net : List Int} {a_net : Option Addr} {c_net : Nat} {place : Int} {w : World} (r_net : Row w a_net net) (h0 : 0 ≤ place) (h1 : place < (net.length : Int)) (h6 : net.length ≤ 6) :
    Calls Try.prog 66 #[.slice a_net net.length c_net, .int .i64 place] w fun e w' => e = .returned (.int .i64 (I.partIn net place)) ∧ ∃ m, w.drewN m = w' := by
  have le_net := r_net.le
  go_enter Try.func66, Try.ntmps66
  go_wp2_with (first | (go_at_call 61; refine (I.seenIn_calls (by first | assumption | omega | exact Row.drewN (by assumption) _) (by first | assumption | omega | exact Row.drewN (by assumption) _)).mono ?_; rintro e w' ⟨rfl, m, rfl⟩))
  go_loopg [5, 6] (net.length - 1) (fun g s5 s6 wr => ∃ (k0 : Nat) (st0 : Int), k0 + g = net.length - 1 ∧ s6 = .int .i64 (1 + (k0 : Int)) ∧ s5 = .int .i64 st0 ∧ (∃ m, w.drewN m = wr) ∧ Aside (fold k0 (I.partIn_L0 net place) (wrap64 (2 ^ (place).toNat)) = st0))
  case atStart =>
    exact ⟨0, (wrap64 (2 ^ (place).toNat)), by omega, by go_num, rfl, (by first | exact ⟨_, rfl⟩ | exact ⟨0, rfl⟩ | (simp only [World.drewN_drewN, World.drew_drewN, World.drewN_drew]; exact ⟨_, rfl⟩)), fold_zero _ _⟩
  case round =>
    obtain ⟨g0, rfl⟩ : ∃ g : Nat, g = gk := ⟨_, rfl⟩
    obtain ⟨k0, st0, hk0, rfl, rfl, ⟨m0, rfl⟩, ha0⟩ := hrel
    by_cases hlt0 : k0 < net.length - 1
    · go_wp2_with (first | (go_at_call 61; refine (I.seenIn_calls (by first | assumption | omega | exact Row.drewN (by assumption) _) (by first | assumption | omega | exact Row.drewN (by assumption) _)).mono ?_; rintro e w' ⟨rfl, m, rfl⟩))
      all_goals (first
        | (go_roundg (g0 - 1); (case measure => omega); (case rel => exact ⟨k0 + 1, ((I.partIn_L0 net place) st0 k0), by omega, by go_num, val_int (by first | rfl | (simp [I.partIn_L0, *]; done) | (go_light; simp [I.partIn_L0, *]; done) | (go_light; simp [I.partIn_L0, *]; omega)), (by first | exact ⟨_, rfl⟩ | exact ⟨0, rfl⟩ | (simp only [World.drewN_drewN, World.drew_drewN, World.drewN_drew]; exact ⟨_, rfl⟩)), (fold_succ _ _ _).trans (by rw [ha0.out])⟩))
        | (go_ret; refine ⟨ret_int ?_, ?_⟩; (· exact (by first | rfl | (simp [I.partIn, *]; done) | (go_light; simp [I.partIn, *]; done) | (go_light; simp [I.partIn, *]; omega))); exact (by first | exact ⟨_, rfl⟩ | exact ⟨0, rfl⟩ | (simp only [World.drewN_drewN, World.drew_drewN, World.drewN_drew]; exact ⟨_, rfl⟩))))
    · obtain rfl : k0 = net.length - 1 := by omega
      go_wp2_with (first | (go_at_call 61; refine (I.seenIn_calls (by first | assumption | omega | exact Row.drewN (by assumption) _) (by first | assumption | omega | exact Row.drewN (by assumption) _)).mono ?_; rintro e w' ⟨rfl, m, rfl⟩))
      all_goals (first
        | (go_ret; refine ⟨ret_int ?_, ?_⟩; (· exact (by first | rfl | (simp [I.partIn, ha0.out, *]; done) | (go_light; simp [I.partIn, ha0.out, *]; done) | (go_light; simp [I.partIn, ha0.out, *]; omega))); exact (by first | exact ⟨_, rfl⟩ | exact ⟨0, rfl⟩ | (simp only [World.drewN_drewN, World.drew_drewN, World.drewN_drew]; exact ⟨_, rfl⟩))))

-- impl.PartOf
theorem I.PartOf_calls {net : List Int} {a_net : Option Addr} {c_net : Nat} {place : Int} {w : World} (r_net : Row w a_net net) :
    Calls Try.prog 35 #[.slice a_net net.length c_net, .int .i64 place] w fun e w' => e = .returned (.int .i64 (I.PartOf net place)) ∧ ∃ m, w.drewN m = w' := by
  have le_net := r_net.le
  rcases Bool.eq_false_or_eq_true (I.NetOk net) with hN | hN
  · have hf := I.NetOk_len hN
    rcases Bool.eq_false_or_eq_true (I.placeIn net place) with hP | hP
    · have hp := I.placeIn_iff hP
      go_enter Try.func35, Try.ntmps35
      go_wp2_with (first | (go_at_call 20; refine (I.NetOk_calls (by first | assumption | omega | exact Row.drewN (by assumption) _)).mono ?_; rintro e w' ⟨rfl, rfl⟩) | (go_at_call 58; refine (I.placeIn_calls (by first | assumption | omega | exact Row.drewN (by assumption) _)).mono ?_; rintro e w' ⟨rfl, rfl⟩) | (go_at_call 66; refine (I.partIn_calls (by first | assumption | omega | exact Row.drewN (by assumption) _) (by first | assumption | omega | exact Row.drewN (by assumption) _) (by first | assumption | omega | exact Row.drewN (by assumption) _) (by first | assumption | omega | exact Row.drewN (by assumption) _)).mono ?_; rintro e w' ⟨rfl, m, rfl⟩))
      all_goals (first
        | (go_ret; refine ⟨ret_int ?_, ?_⟩; (· exact (by first | rfl | (simp [I.PartOf, *]; done) | (go_light; simp [I.PartOf, *]; done) | (go_light; simp [I.PartOf, *]; omega))); exact (by first | exact ⟨_, rfl⟩ | exact ⟨0, rfl⟩ | (simp only [World.drewN_drewN, World.drew_drewN, World.drewN_drew]; exact ⟨_, rfl⟩))))
    · skip
      go_enter Try.func35, Try.ntmps35
      go_wp2_with (first | (go_at_call 20; refine (I.NetOk_calls (by first | assumption | omega | exact Row.drewN (by assumption) _)).mono ?_; rintro e w' ⟨rfl, rfl⟩) | (go_at_call 58; refine (I.placeIn_calls (by first | assumption | omega | exact Row.drewN (by assumption) _)).mono ?_; rintro e w' ⟨rfl, rfl⟩) | (go_at_call 66; refine (I.partIn_calls (by first | assumption | omega | exact Row.drewN (by assumption) _) (by first | assumption | omega | exact Row.drewN (by assumption) _) (by first | assumption | omega | exact Row.drewN (by assumption) _) (by first | assumption | omega | exact Row.drewN (by assumption) _)).mono ?_; rintro e w' ⟨rfl, m, rfl⟩))
      all_goals (first
        | (go_ret; refine ⟨ret_int ?_, ?_⟩; (· exact (by first | rfl | (simp [I.PartOf, *]; done) | (go_light; simp [I.PartOf, *]; done) | (go_light; simp [I.PartOf, *]; omega))); exact (by first | exact ⟨_, rfl⟩ | exact ⟨0, rfl⟩ | (simp only [World.drewN_drewN, World.drew_drewN, World.drewN_drew]; exact ⟨_, rfl⟩))))
  · skip
    go_enter Try.func35, Try.ntmps35
    go_wp2_with (first | (go_at_call 20; refine (I.NetOk_calls (by first | assumption | omega | exact Row.drewN (by assumption) _)).mono ?_; rintro e w' ⟨rfl, rfl⟩) | (go_at_call 58; refine (I.placeIn_calls (by first | assumption | omega | exact Row.drewN (by assumption) _)).mono ?_; rintro e w' ⟨rfl, rfl⟩) | (go_at_call 66; refine (I.partIn_calls (by first | assumption | omega | exact Row.drewN (by assumption) _) (by first | assumption | omega | exact Row.drewN (by assumption) _) (by first | assumption | omega | exact Row.drewN (by assumption) _) (by first | assumption | omega | exact Row.drewN (by assumption) _)).mono ?_; rintro e w' ⟨rfl, m, rfl⟩))
    all_goals (first
      | (go_ret; refine ⟨ret_int ?_, ?_⟩; (· exact (by first | rfl | (simp [I.PartOf, *]; done) | (go_light; simp [I.PartOf, *]; done) | (go_light; simp [I.PartOf, *]; omega))); exact (by first | exact ⟨_, rfl⟩ | exact ⟨0, rfl⟩ | (simp only [World.drewN_drewN, World.drew_drewN, World.drewN_drew]; exact ⟨_, rfl⟩))))

-- impl.PartMany
theorem I.PartMany_calls {net : List Int} {a_net : Option Addr} {c_net : Nat} {w : World} (r_net : Row w a_net net) :
    Calls Try.prog 33 #[.slice a_net net.length c_net] w fun e w' => e = .returned (.int .i64 (I.PartMany net)) ∧ ∃ m, w.drewN m = w' := by
  have le_net := r_net.le
  rcases Bool.eq_false_or_eq_true (I.NetOk net) with hN | hN
  · have hf := I.NetOk_len hN
    go_enter Try.func33, Try.ntmps33
    go_wp2_with (first | (go_at_call 20; refine (I.NetOk_calls (by first | assumption | omega | exact Row.drewN (by assumption) _)).mono ?_; rintro e w' ⟨rfl, rfl⟩) | (go_at_call 54; refine (I.hasPlace_calls (by first | assumption | omega | exact Row.drewN (by assumption) _) (by first | assumption | omega | exact Row.drewN (by assumption) _)).mono ?_; rintro e w' ⟨rfl, rfl⟩) | (go_at_call 66; refine (I.partIn_calls (by first | assumption | omega | exact Row.drewN (by assumption) _) (by first | assumption | omega | exact Row.drewN (by assumption) _) (by first | assumption | omega | exact Row.drewN (by assumption) _) (by first | assumption | omega | exact Row.drewN (by assumption) _)).mono ?_; rintro e w' ⟨rfl, m, rfl⟩))
    all_goals (try (first
      | (go_ret; refine ⟨ret_int ?_, ?_⟩; (· exact (by first | rfl | (simp [I.PartMany, *]; done) | (go_light; simp [I.PartMany, *]; done) | (go_light; simp [I.PartMany, *]; omega))); exact (by first | exact ⟨_, rfl⟩ | exact ⟨0, rfl⟩ | (simp only [World.drewN_drewN, World.drew_drewN, World.drewN_drew]; exact ⟨_, rfl⟩)))))
    go_loopg [3, 4, 5] (net.length) (fun g s3 s4 s5 wr => ∃ (k0 : Nat) (st0 : Int × Int), k0 + g = net.length ∧ s5 = .int .i64 (k0 : Int) ∧ s3 = .int .i64 st0.1 ∧ s4 = .int .i64 st0.2 ∧ (∃ m, w.drewN m = wr) ∧ Aside (fold k0 (I.PartMany_L0 net) (0, 0) = st0))
    case atStart =>
      exact ⟨0, (0, 0), by omega, by go_num, rfl, rfl, (by first | exact ⟨_, rfl⟩ | exact ⟨0, rfl⟩ | (simp only [World.drewN_drewN, World.drew_drewN, World.drewN_drew]; exact ⟨_, rfl⟩)), fold_zero _ _⟩
    case round =>
      obtain ⟨g0, rfl⟩ : ∃ g : Nat, g = gk := ⟨_, rfl⟩
      obtain ⟨k0, st0, hk0, rfl, rfl, rfl, ⟨m0, rfl⟩, ha0⟩ := hrel
      by_cases hlt0 : k0 < net.length
      · go_wp2_with (first | (go_at_call 20; refine (I.NetOk_calls (by first | assumption | omega | exact Row.drewN (by assumption) _)).mono ?_; rintro e w' ⟨rfl, rfl⟩) | (go_at_call 54; refine (I.hasPlace_calls (by first | assumption | omega | exact Row.drewN (by assumption) _) (by first | assumption | omega | exact Row.drewN (by assumption) _)).mono ?_; rintro e w' ⟨rfl, rfl⟩) | (go_at_call 66; refine (I.partIn_calls (by first | assumption | omega | exact Row.drewN (by assumption) _) (by first | assumption | omega | exact Row.drewN (by assumption) _) (by first | assumption | omega | exact Row.drewN (by assumption) _) (by first | assumption | omega | exact Row.drewN (by assumption) _)).mono ?_; rintro e w' ⟨rfl, m, rfl⟩))
        all_goals (first
          | (go_roundg (g0 - 1); (case measure => omega); (case rel => exact ⟨k0 + 1, ((I.PartMany_L0 net) st0 k0), by omega, by go_num, val_int (by first | rfl | (simp [I.PartMany_L0, *]; done) | (go_light; simp [I.PartMany_L0, *]; done) | (go_light; simp [I.PartMany_L0, *]; omega)), val_int (by first | rfl | (simp [I.PartMany_L0, *]; done) | (go_light; simp [I.PartMany_L0, *]; done) | (go_light; simp [I.PartMany_L0, *]; omega)), (by first | exact ⟨_, rfl⟩ | exact ⟨0, rfl⟩ | (simp only [World.drewN_drewN, World.drew_drewN, World.drewN_drew]; exact ⟨_, rfl⟩)), (fold_succ _ _ _).trans (by rw [ha0.out])⟩))
          | (go_ret; refine ⟨ret_int ?_, ?_⟩; (· exact (by first | rfl | (simp [I.PartMany, *]; done) | (go_light; simp [I.PartMany, *]; done) | (go_light; simp [I.PartMany, *]; omega))); exact (by first | exact ⟨_, rfl⟩ | exact ⟨0, rfl⟩ | (simp only [World.drewN_drewN, World.drew_drewN, World.drewN_drew]; exact ⟨_, rfl⟩))))
      · obtain rfl : k0 = net.length := by omega
        go_wp2_with (first | (go_at_call 20; refine (I.NetOk_calls (by first | assumption | omega | exact Row.drewN (by assumption) _)).mono ?_; rintro e w' ⟨rfl, rfl⟩) | (go_at_call 54; refine (I.hasPlace_calls (by first | assumption | omega | exact Row.drewN (by assumption) _) (by first | assumption | omega | exact Row.drewN (by assumption) _)).mono ?_; rintro e w' ⟨rfl, rfl⟩) | (go_at_call 66; refine (I.partIn_calls (by first | assumption | omega | exact Row.drewN (by assumption) _) (by first | assumption | omega | exact Row.drewN (by assumption) _) (by first | assumption | omega | exact Row.drewN (by assumption) _) (by first | assumption | omega | exact Row.drewN (by assumption) _)).mono ?_; rintro e w' ⟨rfl, m, rfl⟩))
        all_goals (first
          | (go_ret; refine ⟨ret_int ?_, ?_⟩; (· exact (by first | rfl | (simp [I.PartMany, ha0.out, *]; done) | (go_light; simp [I.PartMany, ha0.out, *]; done) | (go_light; simp [I.PartMany, ha0.out, *]; omega))); exact (by first | exact ⟨_, rfl⟩ | exact ⟨0, rfl⟩ | (simp only [World.drewN_drewN, World.drew_drewN, World.drewN_drew]; exact ⟨_, rfl⟩))))
  · skip
    go_enter Try.func33, Try.ntmps33
    go_wp2_with (first | (go_at_call 20; refine (I.NetOk_calls (by first | assumption | omega | exact Row.drewN (by assumption) _)).mono ?_; rintro e w' ⟨rfl, rfl⟩) | (go_at_call 54; refine (I.hasPlace_calls (by first | assumption | omega | exact Row.drewN (by assumption) _) (by first | assumption | omega | exact Row.drewN (by assumption) _)).mono ?_; rintro e w' ⟨rfl, rfl⟩) | (go_at_call 66; refine (I.partIn_calls (by first | assumption | omega | exact Row.drewN (by assumption) _) (by first | assumption | omega | exact Row.drewN (by assumption) _) (by first | assumption | omega | exact Row.drewN (by assumption) _) (by first | assumption | omega | exact Row.drewN (by assumption) _)).mono ?_; rintro e w' ⟨rfl, m, rfl⟩))
    all_goals (first
      | (go_ret; refine ⟨ret_int ?_, ?_⟩; (· exact (by first | rfl | (simp [I.PartMany, *]; done) | (go_light; simp [I.PartMany, *]; done) | (go_light; simp [I.PartMany, *]; omega))); exact (by first | exact ⟨_, rfl⟩ | exact ⟨0, rfl⟩ | (simp only [World.drewN_drewN, World.drew_drewN, World.drewN_drew]; exact ⟨_, rfl⟩))))

-- impl.LoneOf
theorem I.LoneOf_calls {net : List Int} {a_net : Option Addr} {c_net : Nat} {w : World} (r_net : Row w a_net net) :
    Calls Try.prog 40 #[.slice a_net net.length c_net] w fun e w' => e = .returned (.int .i64 (I.LoneOf net)) ∧ w = w' := by
  have le_net := r_net.le
  rcases Bool.eq_false_or_eq_true (I.NetOk net) with hN | hN
  · have hf := I.NetOk_len hN
    go_enter Try.func40, Try.ntmps40
    go_wp2_with (first | (go_at_call 20; refine (I.NetOk_calls (by first | assumption | omega | exact Row.drewN (by assumption) _)).mono ?_; rintro e w' ⟨rfl, rfl⟩))
    all_goals (try (first
      | (go_ret; refine ⟨ret_int ?_, rfl⟩; exact (by first | rfl | (simp [I.LoneOf, *]; done) | (go_light; simp [I.LoneOf, *]; done) | (go_light; simp [I.LoneOf, *]; omega)))))
    go_loopg [3, 4] (net.length) (fun g s3 s4 wr => ∃ (k0 : Nat) (st0 : Int), k0 + g = net.length ∧ s4 = .int .i64 (k0 : Int) ∧ s3 = .int .i64 st0 ∧ w = wr ∧ Aside (fold k0 (I.LoneOf_L0 net) 0 = st0))
    case atStart =>
      exact ⟨0, 0, by omega, by go_num, rfl, rfl, fold_zero _ _⟩
    case round =>
      obtain ⟨g0, rfl⟩ : ∃ g : Nat, g = gk := ⟨_, rfl⟩
      obtain ⟨k0, st0, hk0, rfl, rfl, rfl, ha0⟩ := hrel
      by_cases hlt0 : k0 < net.length
      · obtain ⟨b_net, o_net, rfl, hc_net⟩ := r_net.get hlt0
        have hc_net_k0 := hc_net k0 hlt0
        go_wp2_with (first | (go_at_call 20; refine (I.NetOk_calls (by first | assumption | omega | exact Row.drewN (by assumption) _)).mono ?_; rintro e w' ⟨rfl, rfl⟩))
        all_goals (first
          | (go_roundg (g0 - 1); (case measure => omega); (case rel => exact ⟨k0 + 1, ((I.LoneOf_L0 net) st0 k0), by omega, by go_num, val_int (by first | rfl | (simp [I.LoneOf_L0, *]; done) | (go_light; simp [I.LoneOf_L0, *]; done) | (go_light; simp [I.LoneOf_L0, *]; omega)), rfl, (fold_succ _ _ _).trans (by rw [ha0.out])⟩))
          | (go_ret; refine ⟨ret_int ?_, rfl⟩; exact (by first | rfl | (simp [I.LoneOf, *]; done) | (go_light; simp [I.LoneOf, *]; done) | (go_light; simp [I.LoneOf, *]; omega))))
      · obtain rfl : k0 = net.length := by omega
        go_wp2_with (first | (go_at_call 20; refine (I.NetOk_calls (by first | assumption | omega | exact Row.drewN (by assumption) _)).mono ?_; rintro e w' ⟨rfl, rfl⟩))
        all_goals (first
          | (go_ret; refine ⟨ret_int ?_, rfl⟩; exact (by first | rfl | (simp [I.LoneOf, ha0.out, *]; done) | (go_light; simp [I.LoneOf, ha0.out, *]; done) | (go_light; simp [I.LoneOf, ha0.out, *]; omega))))
  · skip
    go_enter Try.func40, Try.ntmps40
    go_wp2_with (first | (go_at_call 20; refine (I.NetOk_calls (by first | assumption | omega | exact Row.drewN (by assumption) _)).mono ?_; rintro e w' ⟨rfl, rfl⟩))
    all_goals (first
      | (go_ret; refine ⟨ret_int ?_, rfl⟩; exact (by first | rfl | (simp [I.LoneOf, *]; done) | (go_light; simp [I.LoneOf, *]; done) | (go_light; simp [I.LoneOf, *]; omega))))

-- impl.namedSet
theorem I.namedSet_calls {set_ : Int} {order : List Int} {a_order : Option Addr} {c_order : Nat} {w : World} (r_order : Row w a_order order) (h6 : order.length ≤ 6) (hr : ∀ k, k < order.length → 0 ≤ el order k ∧ el order k ≤ 63) :
    Calls Try.prog 71 #[.int .i64 set_, .slice a_order order.length c_order] w fun e w' => e = .returned (.int .i64 (I.namedSet set_ order)) ∧ w = w' := by
  have le_order := r_order.le
  go_enter Try.func71, Try.ntmps71
  go_wp2_with (first | (go_at_call 54; refine (I.hasPlace_calls (by first | assumption | omega | exact Row.drewN (by assumption) _) (by first | assumption | omega | exact Row.drewN (by assumption) _)).mono ?_; rintro e w' ⟨rfl, rfl⟩))
  go_loopg [5, 6] (order.length) (fun g s5 s6 wr => ∃ (k0 : Nat) (st0 : Int), k0 + g = order.length ∧ s6 = .int .i64 (k0 : Int) ∧ s5 = .int .i64 st0 ∧ w = wr ∧ Aside (fold k0 (I.namedSet_L0 set_ order) 0 = st0))
  case atStart =>
    exact ⟨0, 0, by omega, by go_num, rfl, rfl, fold_zero _ _⟩
  case round =>
    obtain ⟨g0, rfl⟩ : ∃ g : Nat, g = gk := ⟨_, rfl⟩
    obtain ⟨k0, st0, hk0, rfl, rfl, rfl, ha0⟩ := hrel
    by_cases hlt0 : k0 < order.length
    · have hrk := hr k0 hlt0
      obtain ⟨b_order, o_order, rfl, hc_order⟩ := r_order.get hlt0
      have hc_order_k0 := hc_order k0 hlt0
      go_wp2_with (first | (go_at_call 54; refine (I.hasPlace_calls (by first | assumption | omega | exact Row.drewN (by assumption) _) (by first | assumption | omega | exact Row.drewN (by assumption) _)).mono ?_; rintro e w' ⟨rfl, rfl⟩))
      all_goals (first
        | (go_roundg (g0 - 1); (case measure => omega); (case rel => exact ⟨k0 + 1, ((I.namedSet_L0 set_ order) st0 k0), by omega, by go_num, val_int (by first | rfl | (simp [I.namedSet_L0, *]; done) | (go_light; simp [I.namedSet_L0, *]; done) | (go_light; simp [I.namedSet_L0, *]; omega)), rfl, (fold_succ _ _ _).trans (by rw [ha0.out])⟩))
        | (go_ret; refine ⟨ret_int ?_, rfl⟩; exact (by first | rfl | (simp [I.namedSet, *]; done) | (go_light; simp [I.namedSet, *]; done) | (go_light; simp [I.namedSet, *]; omega))))
    · obtain rfl : k0 = order.length := by omega
      go_wp2_with (first | (go_at_call 54; refine (I.hasPlace_calls (by first | assumption | omega | exact Row.drewN (by assumption) _) (by first | assumption | omega | exact Row.drewN (by assumption) _)).mono ?_; rintro e w' ⟨rfl, rfl⟩))
      all_goals (first
        | (go_ret; refine ⟨ret_int ?_, rfl⟩; exact (by first | rfl | (simp [I.namedSet, ha0.out, *]; done) | (go_light; simp [I.namedSet, ha0.out, *]; done) | (go_light; simp [I.namedSet, ha0.out, *]; omega))))

-- impl.orderIn
theorem I.orderIn_calls {net : List Int} {a_net : Option Addr} {c_net : Nat} {order : List Int} {a_order : Option Addr} {c_order : Nat} {w : World} (r_net : Row w a_net net) (r_order : Row w a_order order) (h6 : net.length ≤ 6) :
    Calls Try.prog 70 #[.slice a_net net.length c_net, .slice a_order order.length c_order] w fun e w' => e = .returned (.bool (I.orderIn net order)) ∧ w = w' := by
  have le_net := r_net.le
  have le_order := r_order.le
  rcases Bool.eq_false_or_eq_true (((order.length : Int) != (net.length : Int))) with hne | hne
  · skip
    go_enter Try.func70, Try.ntmps70
    go_wp2_with (first | (go_at_call 58; refine (I.placeIn_calls (by first | assumption | omega | exact Row.drewN (by assumption) _)).mono ?_; rintro e w' ⟨rfl, rfl⟩) | (go_at_call 54; refine (I.hasPlace_calls (by first | assumption | omega | exact Row.drewN (by assumption) _) (by first | assumption | omega | exact Row.drewN (by assumption) _)).mono ?_; rintro e w' ⟨rfl, rfl⟩))
    all_goals (first
      | (go_ret; refine ⟨ret_bool ?_, rfl⟩; exact (by first | rfl | (simp [I.orderIn, *]; done) | (go_light; simp [I.orderIn, *]; done) | (go_light; simp [I.orderIn, *]; omega))))
  · skip
    go_enter Try.func70, Try.ntmps70
    go_wp2_with (first | (go_at_call 58; refine (I.placeIn_calls (by first | assumption | omega | exact Row.drewN (by assumption) _)).mono ?_; rintro e w' ⟨rfl, rfl⟩) | (go_at_call 54; refine (I.hasPlace_calls (by first | assumption | omega | exact Row.drewN (by assumption) _) (by first | assumption | omega | exact Row.drewN (by assumption) _)).mono ?_; rintro e w' ⟨rfl, rfl⟩))
    all_goals (try (first
      | (go_ret; refine ⟨ret_bool ?_, rfl⟩; exact (by first | rfl | (simp [I.orderIn, *]; done) | (go_light; simp [I.orderIn, *]; done) | (go_light; simp [I.orderIn, *]; omega)))))
    go_loopg [5, 6] (order.length) (fun g s5 s6 wr => ∃ (k0 : Nat) (st0 : Int), k0 + g = order.length ∧ s6 = .int .i64 (k0 : Int) ∧ s5 = .int .i64 st0 ∧ w = wr ∧ Aside (loopE k0 (I.orderIn_L0 net order) 0 = .inr st0))
    case atStart =>
      exact ⟨0, 0, by omega, by go_num, rfl, rfl, loopE_zero _ _⟩
    case round =>
      obtain ⟨g0, rfl⟩ : ∃ g : Nat, g = gk := ⟨_, rfl⟩
      obtain ⟨k0, st0, hk0, rfl, rfl, rfl, ha0⟩ := hrel
      by_cases hlt0 : k0 < order.length
      · obtain ⟨b_order, o_order, rfl, hc_order⟩ := r_order.get hlt0
        have hc_k := hc_order k0 hlt0
        rcases Bool.eq_false_or_eq_true (I.placeIn net (el order k0)) with hq | hq
        · have hq2 := I.placeIn_iff hq
          have hc_order_k0 := hc_order k0 hlt0
          go_wp2_with (first | (go_at_call 58; refine (I.placeIn_calls (by first | assumption | omega | exact Row.drewN (by assumption) _)).mono ?_; rintro e w' ⟨rfl, rfl⟩) | (go_at_call 54; refine (I.hasPlace_calls (by first | assumption | omega | exact Row.drewN (by assumption) _) (by first | assumption | omega | exact Row.drewN (by assumption) _)).mono ?_; rintro e w' ⟨rfl, rfl⟩))
          all_goals (first
            | (go_roundg (g0 - 1); (case measure => omega); (case rel => exact ⟨k0 + 1, _, by omega, by go_num, rfl, rfl, (loopE_succ ha0.out).trans (by first | rfl | (simp [I.orderIn_L0, *]; done) | (go_light; simp [I.orderIn_L0, *]; done) | (go_light; simp [I.orderIn_L0, *]; omega))⟩))
            | (have fi0 : (loopE order.length (I.orderIn_L0 net order) 0) = .inl false := loopE_left hlt0 ha0.out (by first | rfl | (simp [I.orderIn_L0, *]; done) | (go_light; simp [I.orderIn_L0, *]; done) | (go_light; simp [I.orderIn_L0, *]; omega)); go_ret; refine ⟨ret_bool ?_, rfl⟩; exact (by first | rfl | (simp [I.orderIn, fi0, *]; done) | (go_light; simp [I.orderIn, fi0, *]; done) | (go_light; simp [I.orderIn, fi0, *]; omega))))
        · skip
          have hc_order_k0 := hc_order k0 hlt0
          go_wp2_with (first | (go_at_call 58; refine (I.placeIn_calls (by first | assumption | omega | exact Row.drewN (by assumption) _)).mono ?_; rintro e w' ⟨rfl, rfl⟩) | (go_at_call 54; refine (I.hasPlace_calls (by first | assumption | omega | exact Row.drewN (by assumption) _) (by first | assumption | omega | exact Row.drewN (by assumption) _)).mono ?_; rintro e w' ⟨rfl, rfl⟩))
          all_goals (first
            | (go_roundg (g0 - 1); (case measure => omega); (case rel => exact ⟨k0 + 1, _, by omega, by go_num, rfl, rfl, (loopE_succ ha0.out).trans (by first | rfl | (simp [I.orderIn_L0, *]; done) | (go_light; simp [I.orderIn_L0, *]; done) | (go_light; simp [I.orderIn_L0, *]; omega))⟩))
            | (have fi0 : (loopE order.length (I.orderIn_L0 net order) 0) = .inl false := loopE_left hlt0 ha0.out (by first | rfl | (simp [I.orderIn_L0, *]; done) | (go_light; simp [I.orderIn_L0, *]; done) | (go_light; simp [I.orderIn_L0, *]; omega)); go_ret; refine ⟨ret_bool ?_, rfl⟩; exact (by first | rfl | (simp [I.orderIn, fi0, *]; done) | (go_light; simp [I.orderIn, fi0, *]; done) | (go_light; simp [I.orderIn, fi0, *]; omega))))
      · obtain rfl : k0 = order.length := by omega
        go_wp2_with (first | (go_at_call 58; refine (I.placeIn_calls (by first | assumption | omega | exact Row.drewN (by assumption) _)).mono ?_; rintro e w' ⟨rfl, rfl⟩) | (go_at_call 54; refine (I.hasPlace_calls (by first | assumption | omega | exact Row.drewN (by assumption) _) (by first | assumption | omega | exact Row.drewN (by assumption) _)).mono ?_; rintro e w' ⟨rfl, rfl⟩))
        all_goals (first
          | (go_ret; refine ⟨ret_bool ?_, rfl⟩; exact (by first | rfl | (simp [I.orderIn, ha0.out, *]; done) | (go_light; simp [I.orderIn, ha0.out, *]; done) | (go_light; simp [I.orderIn, ha0.out, *]; omega))))

end Go.Proofs.Ytpgcbaaopeinkaa
