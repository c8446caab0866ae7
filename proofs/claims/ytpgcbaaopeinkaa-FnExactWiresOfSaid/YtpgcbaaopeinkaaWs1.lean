/- Each Go function (s1) returns what its plain twin returns. Conditions: those of each theorem. -/
import Derived.Test.YtpgcbaaopeinkaaChecked
import Derived.Test.YtpgcbaaopeinkaaPs1
import Derived.Test.YtpgcbaaopeinkaaN1
namespace Go.Proofs.Ytpgcbaaopeinkaa
open Go.RowKit
set_option linter.unusedVariables false
set_option linter.unusedSimpArgs false

-- spec.l1In
theorem S.l1In_calls {n : Int} {low : Int} {high : Int} {w : World}  :
    Calls Try.prog 56 #[.int .i64 n, .int .i64 low, .int .i64 high] w fun e w' => e = .returned (.bool (S.l1In n low high)) ∧ w = w' := by
  go_enter Try.func56, Try.ntmps56
  go_wp2
  all_goals (first
    | (go_ret; refine ⟨ret_bool ?_, rfl⟩; exact (by first | rfl | (simp [S.l1In, *]; done) | (go_light; simp [S.l1In, *]; done) | (go_light; simp [S.l1In, *]; omega))))

-- spec.NetOk
theorem S.NetOk_calls {net : List Int} {a_net : Option Addr} {c_net : Nat} {w : World} (r_net : Row w a_net net) :
    Calls Try.prog 21 #[.slice a_net net.length c_net] w fun e w' => e = .returned (.bool (S.NetOk net)) ∧ ∃ m, w.drewN m = w' := by
  have le_net := r_net.le
  rcases Bool.eq_false_or_eq_true (S.l1In (net.length : Int) 1 6) with hq | hq
  · have hq2 := S.l1In_iff hq
    go_enter Try.func21, Try.ntmps21
    go_wp2_with (first | (go_at_call 56; refine (S.l1In_calls ).mono ?_; rintro e w' ⟨rfl, rfl⟩))
    all_goals (try (go_quiet (first | (go_at_call 56; (first | exact quietA (S.l1In_calls ) | exact quietC (S.l1In_calls )))); go_wp2_with (first | (go_at_call 56; refine (S.l1In_calls ).mono ?_; rintro e w' ⟨rfl, rfl⟩))))
    all_goals (try (go_quiet (first | (go_at_call 56; (first | exact quietA (S.l1In_calls ) | exact quietC (S.l1In_calls )))); go_wp2_with (first | (go_at_call 56; refine (S.l1In_calls ).mono ?_; rintro e w' ⟨rfl, rfl⟩))))
    all_goals (try (first
      | (go_ret; refine ⟨ret_bool ?_, ?_⟩; (· exact (by first | rfl | (simp [S.NetOk, *]; done) | (go_light; simp [S.NetOk, *]; done) | (go_light; simp [S.NetOk, *]; omega))); exact (by first | exact ⟨_, rfl⟩ | exact ⟨0, rfl⟩ | (simp only [World.drewN_drewN, World.drew_drewN, World.drewN_drew]; exact ⟨_, rfl⟩)))))
    go_loopg [3] (net.length) (fun g s3 wr => ∃ (k0 : Nat), k0 + g = net.length ∧ s3 = .int .i64 (k0 : Int) ∧ (∃ m, w.drewN m = wr) ∧ Aside (find k0 (S.NetOk_L0 net) = none))
    case atStart =>
      exact ⟨0, by omega, by go_num, (by first | exact ⟨_, rfl⟩ | exact ⟨0, rfl⟩ | (simp only [World.drewN_drewN, World.drew_drewN, World.drewN_drew]; exact ⟨_, rfl⟩)), find_zero _⟩
    case round =>
      obtain ⟨g0, rfl⟩ : ∃ g : Nat, g = gk := ⟨_, rfl⟩
      obtain ⟨k0, hk0, rfl, ⟨m0, rfl⟩, ha0⟩ := hrel
      by_cases hlt0 : k0 < net.length
      · obtain ⟨b_net, o_net, rfl, hc_net⟩ := r_net.get hlt0
        have hc_net_k0 := hc_net k0 hlt0
        go_wp2_with (first | (go_at_call 56; refine (S.l1In_calls ).mono ?_; rintro e w' ⟨rfl, rfl⟩))
        all_goals (try (go_quiet (first | (go_at_call 56; (first | exact quietA (S.l1In_calls ) | exact quietC (S.l1In_calls )))); go_wp2_with (first | (go_at_call 56; refine (S.l1In_calls ).mono ?_; rintro e w' ⟨rfl, rfl⟩))))
        all_goals (try (go_quiet (first | (go_at_call 56; (first | exact quietA (S.l1In_calls ) | exact quietC (S.l1In_calls )))); go_wp2_with (first | (go_at_call 56; refine (S.l1In_calls ).mono ?_; rintro e w' ⟨rfl, rfl⟩))))
        all_goals (first
          | (go_roundg (g0 - 1); (case measure => omega); (case rel => exact ⟨k0 + 1, by omega, by go_num, (by first | exact ⟨_, rfl⟩ | exact ⟨0, rfl⟩ | (simp only [World.drewN_drewN, World.drew_drewN, World.drewN_drew]; exact ⟨_, rfl⟩)), find_none_succ ha0.out (by first | rfl | (simp [S.NetOk_L0, *]; done) | (go_light; simp [S.NetOk_L0, *]; done) | (go_light; simp [S.NetOk_L0, *]; omega))⟩))
          | (have fi0 : (find net.length (S.NetOk_L0 net)) = some false := find_some_of hlt0 ha0.out (by first | rfl | (simp [S.NetOk_L0, *]; done) | (go_light; simp [S.NetOk_L0, *]; done) | (go_light; simp [S.NetOk_L0, *]; omega)); go_ret; refine ⟨ret_bool ?_, ?_⟩; (· exact (by first | rfl | (simp [S.NetOk, fi0, *]; done) | (go_light; simp [S.NetOk, fi0, *]; done) | (go_light; simp [S.NetOk, fi0, *]; omega))); exact (by first | exact ⟨_, rfl⟩ | exact ⟨0, rfl⟩ | (simp only [World.drewN_drewN, World.drew_drewN, World.drewN_drew]; exact ⟨_, rfl⟩))))
      · obtain rfl : k0 = net.length := by omega
        go_wp2_with (first | (go_at_call 56; refine (S.l1In_calls ).mono ?_; rintro e w' ⟨rfl, rfl⟩))
        all_goals (try (go_quiet (first | (go_at_call 56; (first | exact quietA (S.l1In_calls ) | exact quietC (S.l1In_calls )))); go_wp2_with (first | (go_at_call 56; refine (S.l1In_calls ).mono ?_; rintro e w' ⟨rfl, rfl⟩))))
        all_goals (try (go_quiet (first | (go_at_call 56; (first | exact quietA (S.l1In_calls ) | exact quietC (S.l1In_calls )))); go_wp2_with (first | (go_at_call 56; refine (S.l1In_calls ).mono ?_; rintro e w' ⟨rfl, rfl⟩))))
        go_loopg [4] (net.length) (fun g s4 wr => ∃ (k1 : Nat), k1 + g = net.length ∧ s4 = .int .i64 (k1 : Int) ∧ (∃ m, w.drewN m = wr) ∧ Aside (find k1 (S.NetOk_L1 net) = none))
        case atStart =>
          exact ⟨0, by omega, by go_num, (by first | exact ⟨_, rfl⟩ | exact ⟨0, rfl⟩ | (simp only [World.drewN_drewN, World.drew_drewN, World.drewN_drew]; exact ⟨_, rfl⟩)), find_zero _⟩
        case round =>
          obtain ⟨g1, rfl⟩ : ∃ g : Nat, g = gk := ⟨_, rfl⟩
          obtain ⟨k1, hk1, rfl, ⟨m1, rfl⟩, ha1⟩ := hrel
          by_cases hlt1 : k1 < net.length
          · go_wp2_with (first | (go_at_call 56; refine (S.l1In_calls ).mono ?_; rintro e w' ⟨rfl, rfl⟩))
            all_goals (try (go_quiet (first | (go_at_call 56; (first | exact quietA (S.l1In_calls ) | exact quietC (S.l1In_calls )))); go_wp2_with (first | (go_at_call 56; refine (S.l1In_calls ).mono ?_; rintro e w' ⟨rfl, rfl⟩))))
            all_goals (try (go_quiet (first | (go_at_call 56; (first | exact quietA (S.l1In_calls ) | exact quietC (S.l1In_calls )))); go_wp2_with (first | (go_at_call 56; refine (S.l1In_calls ).mono ?_; rintro e w' ⟨rfl, rfl⟩))))
            go_loopg [5] (net.length) (fun g s5 wr => ∃ (k2 : Nat), k2 + g = net.length ∧ s5 = .int .i64 (k2 : Int) ∧ (∃ m, w.drewN m = wr) ∧ Aside (find k2 (S.NetOk_L2 net k1) = none))
            case atStart =>
              exact ⟨0, by omega, by go_num, (by first | exact ⟨_, rfl⟩ | exact ⟨0, rfl⟩ | (simp only [World.drewN_drewN, World.drew_drewN, World.drewN_drew]; exact ⟨_, rfl⟩)), find_zero _⟩
            case round =>
              obtain ⟨g2, rfl⟩ : ∃ g : Nat, g = gk := ⟨_, rfl⟩
              obtain ⟨k2, hk2, rfl, ⟨m2, rfl⟩, ha2⟩ := hrel
              by_cases hlt2 : k2 < net.length
              · rcases Bool.eq_false_or_eq_true (((Int.tmod (el net k1 / 2 ^ k2) 2) != (Int.tmod (el net k2 / 2 ^ k1) 2))) with hg1 | hg1
                · skip
                  rcases Bool.eq_false_or_eq_true (((k2 : Int) == (k1 : Int))) with hg2 | hg2
                  · skip
                    obtain ⟨b_net, o_net, rfl, hc_net⟩ := r_net.get hlt1
                    have hc_net_k1 := hc_net k1 hlt1
                    have hc_net_k2 := hc_net k2 hlt2
                    go_wp2_with (first | (go_at_call 56; refine (S.l1In_calls ).mono ?_; rintro e w' ⟨rfl, rfl⟩))
                    all_goals (try (go_quiet (first | (go_at_call 56; (first | exact quietA (S.l1In_calls ) | exact quietC (S.l1In_calls )))); go_wp2_with (first | (go_at_call 56; refine (S.l1In_calls ).mono ?_; rintro e w' ⟨rfl, rfl⟩))))
                    all_goals (try (go_quiet (first | (go_at_call 56; (first | exact quietA (S.l1In_calls ) | exact quietC (S.l1In_calls )))); go_wp2_with (first | (go_at_call 56; refine (S.l1In_calls ).mono ?_; rintro e w' ⟨rfl, rfl⟩))))
                    all_goals (first
                      | (go_roundg (g2 - 1); (case measure => omega); (case rel => exact ⟨k2 + 1, by omega, by go_num, (by first | exact ⟨_, rfl⟩ | exact ⟨0, rfl⟩ | (simp only [World.drewN_drewN, World.drew_drewN, World.drewN_drew]; exact ⟨_, rfl⟩)), find_none_succ ha2.out (by first | rfl | (simp [S.NetOk_L2, ha0.out, *]; done) | (go_light; simp [S.NetOk_L2, ha0.out, *]; done) | (go_light; simp [S.NetOk_L2, ha0.out, *]; omega))⟩))
                      | (have fi2 : (find net.length (S.NetOk_L2 net k1)) = some false := find_some_of hlt2 ha2.out (by first | rfl | (simp [S.NetOk_L2, ha0.out, *]; done) | (go_light; simp [S.NetOk_L2, ha0.out, *]; done) | (go_light; simp [S.NetOk_L2, ha0.out, *]; omega)); have fi1 : (find net.length (S.NetOk_L1 net)) = some false := find_some_of hlt1 ha1.out (by first | rfl | (simp [S.NetOk_L1, ha0.out, fi2, *]; done) | (go_light; simp [S.NetOk_L1, ha0.out, fi2, *]; done) | (go_light; simp [S.NetOk_L1, ha0.out, fi2, *]; omega)); go_ret; refine ⟨ret_bool ?_, ?_⟩; (· exact (by first | rfl | (simp [S.NetOk, ha0.out, fi2, fi1, *]; done) | (go_light; simp [S.NetOk, ha0.out, fi2, fi1, *]; done) | (go_light; simp [S.NetOk, ha0.out, fi2, fi1, *]; omega))); exact (by first | exact ⟨_, rfl⟩ | exact ⟨0, rfl⟩ | (simp only [World.drewN_drewN, World.drew_drewN, World.drewN_drew]; exact ⟨_, rfl⟩))))
                  · skip
                    obtain ⟨b_net, o_net, rfl, hc_net⟩ := r_net.get hlt1
                    have hc_net_k1 := hc_net k1 hlt1
                    have hc_net_k2 := hc_net k2 hlt2
                    go_wp2_with (first | (go_at_call 56; refine (S.l1In_calls ).mono ?_; rintro e w' ⟨rfl, rfl⟩))
                    all_goals (try (go_quiet (first | (go_at_call 56; (first | exact quietA (S.l1In_calls ) | exact quietC (S.l1In_calls )))); go_wp2_with (first | (go_at_call 56; refine (S.l1In_calls ).mono ?_; rintro e w' ⟨rfl, rfl⟩))))
                    all_goals (try (go_quiet (first | (go_at_call 56; (first | exact quietA (S.l1In_calls ) | exact quietC (S.l1In_calls )))); go_wp2_with (first | (go_at_call 56; refine (S.l1In_calls ).mono ?_; rintro e w' ⟨rfl, rfl⟩))))
                    all_goals (first
                      | (go_roundg (g2 - 1); (case measure => omega); (case rel => exact ⟨k2 + 1, by omega, by go_num, (by first | exact ⟨_, rfl⟩ | exact ⟨0, rfl⟩ | (simp only [World.drewN_drewN, World.drew_drewN, World.drewN_drew]; exact ⟨_, rfl⟩)), find_none_succ ha2.out (by first | rfl | (simp [S.NetOk_L2, ha0.out, *]; done) | (go_light; simp [S.NetOk_L2, ha0.out, *]; done) | (go_light; simp [S.NetOk_L2, ha0.out, *]; omega))⟩))
                      | (have fi2 : (find net.length (S.NetOk_L2 net k1)) = some false := find_some_of hlt2 ha2.out (by first | rfl | (simp [S.NetOk_L2, ha0.out, *]; done) | (go_light; simp [S.NetOk_L2, ha0.out, *]; done) | (go_light; simp [S.NetOk_L2, ha0.out, *]; omega)); have fi1 : (find net.length (S.NetOk_L1 net)) = some false := find_some_of hlt1 ha1.out (by first | rfl | (simp [S.NetOk_L1, ha0.out, fi2, *]; done) | (go_light; simp [S.NetOk_L1, ha0.out, fi2, *]; done) | (go_light; simp [S.NetOk_L1, ha0.out, fi2, *]; omega)); go_ret; refine ⟨ret_bool ?_, ?_⟩; (· exact (by first | rfl | (simp [S.NetOk, ha0.out, fi2, fi1, *]; done) | (go_light; simp [S.NetOk, ha0.out, fi2, fi1, *]; done) | (go_light; simp [S.NetOk, ha0.out, fi2, fi1, *]; omega))); exact (by first | exact ⟨_, rfl⟩ | exact ⟨0, rfl⟩ | (simp only [World.drewN_drewN, World.drew_drewN, World.drewN_drew]; exact ⟨_, rfl⟩))))
                · skip
                  rcases Bool.eq_false_or_eq_true (((k2 : Int) == (k1 : Int))) with hg2 | hg2
                  · skip
                    obtain ⟨b_net, o_net, rfl, hc_net⟩ := r_net.get hlt1
                    have hc_net_k1 := hc_net k1 hlt1
                    have hc_net_k2 := hc_net k2 hlt2
                    go_wp2_with (first | (go_at_call 56; refine (S.l1In_calls ).mono ?_; rintro e w' ⟨rfl, rfl⟩))
                    all_goals (try (go_quiet (first | (go_at_call 56; (first | exact quietA (S.l1In_calls ) | exact quietC (S.l1In_calls )))); go_wp2_with (first | (go_at_call 56; refine (S.l1In_calls ).mono ?_; rintro e w' ⟨rfl, rfl⟩))))
                    all_goals (try (go_quiet (first | (go_at_call 56; (first | exact quietA (S.l1In_calls ) | exact quietC (S.l1In_calls )))); go_wp2_with (first | (go_at_call 56; refine (S.l1In_calls ).mono ?_; rintro e w' ⟨rfl, rfl⟩))))
                    all_goals (first
                      | (go_roundg (g2 - 1); (case measure => omega); (case rel => exact ⟨k2 + 1, by omega, by go_num, (by first | exact ⟨_, rfl⟩ | exact ⟨0, rfl⟩ | (simp only [World.drewN_drewN, World.drew_drewN, World.drewN_drew]; exact ⟨_, rfl⟩)), find_none_succ ha2.out (by first | rfl | (simp [S.NetOk_L2, ha0.out, *]; done) | (go_light; simp [S.NetOk_L2, ha0.out, *]; done) | (go_light; simp [S.NetOk_L2, ha0.out, *]; omega))⟩))
                      | (have fi2 : (find net.length (S.NetOk_L2 net k1)) = some false := find_some_of hlt2 ha2.out (by first | rfl | (simp [S.NetOk_L2, ha0.out, *]; done) | (go_light; simp [S.NetOk_L2, ha0.out, *]; done) | (go_light; simp [S.NetOk_L2, ha0.out, *]; omega)); have fi1 : (find net.length (S.NetOk_L1 net)) = some false := find_some_of hlt1 ha1.out (by first | rfl | (simp [S.NetOk_L1, ha0.out, fi2, *]; done) | (go_light; simp [S.NetOk_L1, ha0.out, fi2, *]; done) | (go_light; simp [S.NetOk_L1, ha0.out, fi2, *]; omega)); go_ret; refine ⟨ret_bool ?_, ?_⟩; (· exact (by first | rfl | (simp [S.NetOk, ha0.out, fi2, fi1, *]; done) | (go_light; simp [S.NetOk, ha0.out, fi2, fi1, *]; done) | (go_light; simp [S.NetOk, ha0.out, fi2, fi1, *]; omega))); exact (by first | exact ⟨_, rfl⟩ | exact ⟨0, rfl⟩ | (simp only [World.drewN_drewN, World.drew_drewN, World.drewN_drew]; exact ⟨_, rfl⟩))))
                  · skip
                    obtain ⟨b_net, o_net, rfl, hc_net⟩ := r_net.get hlt1
                    have hc_net_k1 := hc_net k1 hlt1
                    have hc_net_k2 := hc_net k2 hlt2
                    go_wp2_with (first | (go_at_call 56; refine (S.l1In_calls ).mono ?_; rintro e w' ⟨rfl, rfl⟩))
                    all_goals (try (go_quiet (first | (go_at_call 56; (first | exact quietA (S.l1In_calls ) | exact quietC (S.l1In_calls )))); go_wp2_with (first | (go_at_call 56; refine (S.l1In_calls ).mono ?_; rintro e w' ⟨rfl, rfl⟩))))
                    all_goals (try (go_quiet (first | (go_at_call 56; (first | exact quietA (S.l1In_calls ) | exact quietC (S.l1In_calls )))); go_wp2_with (first | (go_at_call 56; refine (S.l1In_calls ).mono ?_; rintro e w' ⟨rfl, rfl⟩))))
                    all_goals (first
                      | (go_roundg (g2 - 1); (case measure => omega); (case rel => exact ⟨k2 + 1, by omega, by go_num, (by first | exact ⟨_, rfl⟩ | exact ⟨0, rfl⟩ | (simp only [World.drewN_drewN, World.drew_drewN, World.drewN_drew]; exact ⟨_, rfl⟩)), find_none_succ ha2.out (by first | rfl | (simp [S.NetOk_L2, ha0.out, *]; done) | (go_light; simp [S.NetOk_L2, ha0.out, *]; done) | (go_light; simp [S.NetOk_L2, ha0.out, *]; omega))⟩))
                      | (have fi2 : (find net.length (S.NetOk_L2 net k1)) = some false := find_some_of hlt2 ha2.out (by first | rfl | (simp [S.NetOk_L2, ha0.out, *]; done) | (go_light; simp [S.NetOk_L2, ha0.out, *]; done) | (go_light; simp [S.NetOk_L2, ha0.out, *]; omega)); have fi1 : (find net.length (S.NetOk_L1 net)) = some false := find_some_of hlt1 ha1.out (by first | rfl | (simp [S.NetOk_L1, ha0.out, fi2, *]; done) | (go_light; simp [S.NetOk_L1, ha0.out, fi2, *]; done) | (go_light; simp [S.NetOk_L1, ha0.out, fi2, *]; omega)); go_ret; refine ⟨ret_bool ?_, ?_⟩; (· exact (by first | rfl | (simp [S.NetOk, ha0.out, fi2, fi1, *]; done) | (go_light; simp [S.NetOk, ha0.out, fi2, fi1, *]; done) | (go_light; simp [S.NetOk, ha0.out, fi2, fi1, *]; omega))); exact (by first | exact ⟨_, rfl⟩ | exact ⟨0, rfl⟩ | (simp only [World.drewN_drewN, World.drew_drewN, World.drewN_drew]; exact ⟨_, rfl⟩))))
              · obtain rfl : k2 = net.length := by omega
                go_wp2_with (first | (go_at_call 56; refine (S.l1In_calls ).mono ?_; rintro e w' ⟨rfl, rfl⟩))
                all_goals (try (go_quiet (first | (go_at_call 56; (first | exact quietA (S.l1In_calls ) | exact quietC (S.l1In_calls )))); go_wp2_with (first | (go_at_call 56; refine (S.l1In_calls ).mono ?_; rintro e w' ⟨rfl, rfl⟩))))
                all_goals (try (go_quiet (first | (go_at_call 56; (first | exact quietA (S.l1In_calls ) | exact quietC (S.l1In_calls )))); go_wp2_with (first | (go_at_call 56; refine (S.l1In_calls ).mono ?_; rintro e w' ⟨rfl, rfl⟩))))
                all_goals (first
                  | (go_roundg (g1 - 1); (case measure => omega); (case rel => exact ⟨k1 + 1, by omega, by go_num, (by first | exact ⟨_, rfl⟩ | exact ⟨0, rfl⟩ | (simp only [World.drewN_drewN, World.drew_drewN, World.drewN_drew]; exact ⟨_, rfl⟩)), find_none_succ ha1.out (by first | rfl | (simp [S.NetOk_L1, ha0.out, ha2.out, *]; done) | (go_light; simp [S.NetOk_L1, ha0.out, ha2.out, *]; done) | (go_light; simp [S.NetOk_L1, ha0.out, ha2.out, *]; omega))⟩))
                  | (have fi1 : (find net.length (S.NetOk_L1 net)) = some r := find_some_of hlt1 ha1.out (by first | rfl | (simp [S.NetOk_L1, ha0.out, ha2.out, *]; done) | (go_light; simp [S.NetOk_L1, ha0.out, ha2.out, *]; done) | (go_light; simp [S.NetOk_L1, ha0.out, ha2.out, *]; omega)); go_ret; refine ⟨ret_bool ?_, ?_⟩; (· exact (by first | rfl | (simp [S.NetOk, ha0.out, ha2.out, fi1, *]; done) | (go_light; simp [S.NetOk, ha0.out, ha2.out, fi1, *]; done) | (go_light; simp [S.NetOk, ha0.out, ha2.out, fi1, *]; omega))); exact (by first | exact ⟨_, rfl⟩ | exact ⟨0, rfl⟩ | (simp only [World.drewN_drewN, World.drew_drewN, World.drewN_drew]; exact ⟨_, rfl⟩))))
          · obtain rfl : k1 = net.length := by omega
            go_wp2_with (first | (go_at_call 56; refine (S.l1In_calls ).mono ?_; rintro e w' ⟨rfl, rfl⟩))
            all_goals (try (go_quiet (first | (go_at_call 56; (first | exact quietA (S.l1In_calls ) | exact quietC (S.l1In_calls )))); go_wp2_with (first | (go_at_call 56; refine (S.l1In_calls ).mono ?_; rintro e w' ⟨rfl, rfl⟩))))
            all_goals (try (go_quiet (first | (go_at_call 56; (first | exact quietA (S.l1In_calls ) | exact quietC (S.l1In_calls )))); go_wp2_with (first | (go_at_call 56; refine (S.l1In_calls ).mono ?_; rintro e w' ⟨rfl, rfl⟩))))
            all_goals (first
              | (go_ret; refine ⟨ret_bool ?_, ?_⟩; (· exact (by first | rfl | (simp [S.NetOk, ha0.out, ha1.out, *]; done) | (go_light; simp [S.NetOk, ha0.out, ha1.out, *]; done) | (go_light; simp [S.NetOk, ha0.out, ha1.out, *]; omega))); exact (by first | exact ⟨_, rfl⟩ | exact ⟨0, rfl⟩ | (simp only [World.drewN_drewN, World.drew_drewN, World.drewN_drew]; exact ⟨_, rfl⟩))))
  · skip
    go_enter Try.func21, Try.ntmps21
    go_wp2_with (first | (go_at_call 56; refine (S.l1In_calls ).mono ?_; rintro e w' ⟨rfl, rfl⟩))
    all_goals (try (go_quiet (first | (go_at_call 56; (first | exact quietA (S.l1In_calls ) | exact quietC (S.l1In_calls )))); go_wp2_with (first | (go_at_call 56; refine (S.l1In_calls ).mono ?_; rintro e w' ⟨rfl, rfl⟩))))
    all_goals (try (go_quiet (first | (go_at_call 56; (first | exact quietA (S.l1In_calls ) | exact quietC (S.l1In_calls )))); go_wp2_with (first | (go_at_call 56; refine (S.l1In_calls ).mono ?_; rintro e w' ⟨rfl, rfl⟩))))
    all_goals (first
      | (go_ret; refine ⟨ret_bool ?_, ?_⟩; (· exact (by first | rfl | (simp [S.NetOk, *]; done) | (go_light; simp [S.NetOk, *]; done) | (go_light; simp [S.NetOk, *]; omega))); exact (by first | exact ⟨_, rfl⟩ | exact ⟨0, rfl⟩ | (simp only [World.drewN_drewN, World.drew_drewN, World.drewN_drew]; exact ⟨_, rfl⟩))))

-- spec.l1SetOk
theorem S.l1SetOk_calls {net : List Int} {a_net : Option Addr} {c_net : Nat} {set_ : Int} {w : World} (r_net : Row w a_net net) :
    Calls Try.prog 62 #[.slice a_net net.length c_net, .int .i64 set_] w fun e w' => e = .returned (.bool (S.l1SetOk net set_)) ∧ ∃ m, w.drewN m = w' := by
  have le_net := r_net.le
  rcases Bool.eq_false_or_eq_true (S.NetOk net) with hN | hN
  · have hf := S.NetOk_len hN
    go_enter Try.func62, Try.ntmps62
    go_wp2_with (first | (go_at_call 21; refine (S.NetOk_calls (by first | assumption | omega | exact Row.drewN (by assumption) _)).mono ?_; rintro e w' ⟨rfl, m, rfl⟩) | (go_at_call 56; refine (S.l1In_calls ).mono ?_; rintro e w' ⟨rfl, rfl⟩))
    all_goals (first
      | (go_ret; refine ⟨ret_bool ?_, ?_⟩; (· exact (by first | rfl | (simp [S.l1SetOk, *]; done) | (go_light; simp [S.l1SetOk, *]; done) | (go_light; simp [S.l1SetOk, *]; omega))); exact (by first | exact ⟨_, rfl⟩ | exact ⟨0, rfl⟩ | (simp only [World.drewN_drewN, World.drew_drewN, World.drewN_drew]; exact ⟨_, rfl⟩))))
  · skip
    go_enter Try.func62, Try.ntmps62
    go_wp2_with (first | (go_at_call 21; refine (S.NetOk_calls (by first | assumption | omega | exact Row.drewN (by assumption) _)).mono ?_; rintro e w' ⟨rfl, m, rfl⟩) | (go_at_call 56; refine (S.l1In_calls ).mono ?_; rintro e w' ⟨rfl, rfl⟩))
    all_goals (first
      | (go_ret; refine ⟨ret_bool ?_, ?_⟩; (· exact (by first | rfl | (simp [S.l1SetOk, *]; done) | (go_light; simp [S.l1SetOk, *]; done) | (go_light; simp [S.l1SetOk, *]; omega))); exact (by first | exact ⟨_, rfl⟩ | exact ⟨0, rfl⟩ | (simp only [World.drewN_drewN, World.drew_drewN, World.drewN_drew]; exact ⟨_, rfl⟩))))

-- spec.l1Size
theorem S.l1Size_calls {set_ : Int} {w : World} (hs : set_ ≤ 9223372036854775807) :
    Calls Try.prog 65 #[.int .i64 set_] w fun e w' => e = .returned (.int .i64 (S.l1Size set_)) ∧ w = w' := by
  go_enter Try.func65, Try.ntmps65
  go_wp2
  go_loopg [0, 3] (set_.toNat) (fun g s0 s3 wr => ∃ (st0 : Int × Int), s3 = .int .i64 st0.1 ∧ s0 = .int .i64 st0.2 ∧ w = wr ∧ Aside (wh g (S.l1Size_L0_c set_) (S.l1Size_L0 set_) st0 = (wh set_.toNat (S.l1Size_L0_c set_) (S.l1Size_L0 set_) (0, set_))) ∧ st0.2 ≤ 9223372036854775807)
  case atStart =>
    exact ⟨(0, set_), rfl, rfl, rfl, rfl, hs⟩
  case round =>
    obtain ⟨g0, rfl⟩ : ∃ g : Nat, g = gk := ⟨_, rfl⟩
    obtain ⟨st0, rfl, rfl, rfl, ha0, hinv0⟩ := hrel
    rcases Bool.eq_false_or_eq_true ((S.l1Size_L0_c set_) st0) with hw0 | hw0
    · obtain ⟨g0', rfl⟩ : ∃ g', g0 = g' + 1 := wh_more ha0.out hw0 (S.l1Size_end set_)
      have hu0 := hw0; simp [S.l1Size_L0_c] at hu0
      have hv0 : Aside ((S.l1Size_L0_c set_) st0 = true) := hw0; clear hw0
      go_wp2
      all_goals (first
        | (go_roundg g0'; (case measure => omega); (case rel => exact ⟨((S.l1Size_L0 set_) st0), val_int (by first | rfl | (simp [S.l1Size_L0, S.l1Size_L0_c, *]; done) | (go_light; simp [S.l1Size_L0, S.l1Size_L0_c, *]; done) | (go_light; simp [S.l1Size_L0, S.l1Size_L0_c, *]; omega)), val_int (by first | rfl | (simp [S.l1Size_L0, S.l1Size_L0_c, *]; done) | (go_light; simp [S.l1Size_L0, S.l1Size_L0_c, *]; done) | (go_light; simp [S.l1Size_L0, S.l1Size_L0_c, *]; omega)), rfl, wh_step ha0.out hv0.out, by simp only [S.l1Size_L0]; omega⟩))
        | (go_ret; refine ⟨ret_int ?_, rfl⟩; exact (by first | rfl | (simp [S.l1Size, *]; done) | (go_light; simp [S.l1Size, *]; done) | (go_light; simp [S.l1Size, *]; omega)))
        | (exfalso; go_light; simp_all; done))
    · have hz0 := wh_done ha0.out hw0
      have hu0 := hw0; simp [S.l1Size_L0_c] at hu0
      have ha0 : Aside ((wh set_.toNat (S.l1Size_L0_c set_) (S.l1Size_L0 set_) (0, set_)) = st0) := hz0; clear hz0 hw0
      go_wp2
      all_goals (first
        | (go_ret; refine ⟨ret_int ?_, rfl⟩; exact (by first | rfl | (simp [S.l1Size, ha0.out, *]; done) | (go_light; simp [S.l1Size, ha0.out, *]; done) | (go_light; simp [S.l1Size, ha0.out, *]; omega)))
        | (exfalso; go_light; simp_all; done))

-- spec.BallOf
theorem S.BallOf_calls {net : List Int} {a_net : Option Addr} {c_net : Nat} {place : Int} {w : World} (r_net : Row w a_net net) :
    Calls Try.prog 24 #[.slice a_net net.length c_net, .int .i64 place] w fun e w' => e = .returned (.int .i64 (S.BallOf net place)) ∧ ∃ m, w.drewN m = w' := by
  have le_net := r_net.le
  rcases Bool.eq_false_or_eq_true (S.NetOk net) with hN | hN
  · have hf := S.NetOk_len hN
    rcases Bool.eq_false_or_eq_true (S.l1In place 0 ((net.length : Int) - 1)) with hP | hP
    · have hp := S.l1In_iff hP
      obtain ⟨b_net, o_net, rfl, hc_net⟩ := r_net.get (show place.toNat < net.length by omega)
      have hc_p := hc_net place.toNat (by omega)
      go_enter Try.func24, Try.ntmps24
      go_wp2_with (first | (go_at_call 21; refine (S.NetOk_calls (by first | assumption | omega | exact Row.drewN (by assumption) _)).mono ?_; rintro e w' ⟨rfl, m, rfl⟩) | (go_at_call 56; refine (S.l1In_calls ).mono ?_; rintro e w' ⟨rfl, rfl⟩))
      all_goals (try (go_quiet (first | (go_at_call 21; (first | exact quietB (S.NetOk_calls (by first | assumption | omega | exact Row.drewN (by assumption) _)) | exact quietD (S.NetOk_calls (by first | assumption | omega | exact Row.drewN (by assumption) _)))) | (go_at_call 56; (first | exact quietA (S.l1In_calls ) | exact quietC (S.l1In_calls )))); go_wp2_with (first | (go_at_call 21; refine (S.NetOk_calls (by first | assumption | omega | exact Row.drewN (by assumption) _)).mono ?_; rintro e w' ⟨rfl, m, rfl⟩) | (go_at_call 56; refine (S.l1In_calls ).mono ?_; rintro e w' ⟨rfl, rfl⟩))))
      all_goals (try (go_quiet (first | (go_at_call 21; (first | exact quietB (S.NetOk_calls (by first | assumption | omega | exact Row.drewN (by assumption) _)) | exact quietD (S.NetOk_calls (by first | assumption | omega | exact Row.drewN (by assumption) _)))) | (go_at_call 56; (first | exact quietA (S.l1In_calls ) | exact quietC (S.l1In_calls )))); go_wp2_with (first | (go_at_call 21; refine (S.NetOk_calls (by first | assumption | omega | exact Row.drewN (by assumption) _)).mono ?_; rintro e w' ⟨rfl, m, rfl⟩) | (go_at_call 56; refine (S.l1In_calls ).mono ?_; rintro e w' ⟨rfl, rfl⟩))))
      all_goals (first
        | (go_ret; refine ⟨ret_int ?_, ?_⟩; (· exact (by first | rfl | (simp [S.BallOf, *]; done) | (go_light; simp [S.BallOf, *]; done) | (go_light; simp [S.BallOf, *]; omega))); exact (by first | exact ⟨_, rfl⟩ | exact ⟨0, rfl⟩ | (simp only [World.drewN_drewN, World.drew_drewN, World.drewN_drew]; exact ⟨_, rfl⟩))))
    · skip
      go_enter Try.func24, Try.ntmps24
      go_wp2_with (first | (go_at_call 21; refine (S.NetOk_calls (by first | assumption | omega | exact Row.drewN (by assumption) _)).mono ?_; rintro e w' ⟨rfl, m, rfl⟩) | (go_at_call 56; refine (S.l1In_calls ).mono ?_; rintro e w' ⟨rfl, rfl⟩))
      all_goals (try (go_quiet (first | (go_at_call 21; (first | exact quietB (S.NetOk_calls (by first | assumption | omega | exact Row.drewN (by assumption) _)) | exact quietD (S.NetOk_calls (by first | assumption | omega | exact Row.drewN (by assumption) _)))) | (go_at_call 56; (first | exact quietA (S.l1In_calls ) | exact quietC (S.l1In_calls )))); go_wp2_with (first | (go_at_call 21; refine (S.NetOk_calls (by first | assumption | omega | exact Row.drewN (by assumption) _)).mono ?_; rintro e w' ⟨rfl, m, rfl⟩) | (go_at_call 56; refine (S.l1In_calls ).mono ?_; rintro e w' ⟨rfl, rfl⟩))))
      all_goals (try (go_quiet (first | (go_at_call 21; (first | exact quietB (S.NetOk_calls (by first | assumption | omega | exact Row.drewN (by assumption) _)) | exact quietD (S.NetOk_calls (by first | assumption | omega | exact Row.drewN (by assumption) _)))) | (go_at_call 56; (first | exact quietA (S.l1In_calls ) | exact quietC (S.l1In_calls )))); go_wp2_with (first | (go_at_call 21; refine (S.NetOk_calls (by first | assumption | omega | exact Row.drewN (by assumption) _)).mono ?_; rintro e w' ⟨rfl, m, rfl⟩) | (go_at_call 56; refine (S.l1In_calls ).mono ?_; rintro e w' ⟨rfl, rfl⟩))))
      all_goals (first
        | (go_ret; refine ⟨ret_int ?_, ?_⟩; (· exact (by first | rfl | (simp [S.BallOf, *]; done) | (go_light; simp [S.BallOf, *]; done) | (go_light; simp [S.BallOf, *]; omega))); exact (by first | exact ⟨_, rfl⟩ | exact ⟨0, rfl⟩ | (simp only [World.drewN_drewN, World.drew_drewN, World.drewN_drew]; exact ⟨_, rfl⟩))))
  · skip
    go_enter Try.func24, Try.ntmps24
    go_wp2_with (first | (go_at_call 21; refine (S.NetOk_calls (by first | assumption | omega | exact Row.drewN (by assumption) _)).mono ?_; rintro e w' ⟨rfl, m, rfl⟩) | (go_at_call 56; refine (S.l1In_calls ).mono ?_; rintro e w' ⟨rfl, rfl⟩))
    all_goals (try (go_quiet (first | (go_at_call 21; (first | exact quietB (S.NetOk_calls (by first | assumption | omega | exact Row.drewN (by assumption) _)) | exact quietD (S.NetOk_calls (by first | assumption | omega | exact Row.drewN (by assumption) _)))) | (go_at_call 56; (first | exact quietA (S.l1In_calls ) | exact quietC (S.l1In_calls )))); go_wp2_with (first | (go_at_call 21; refine (S.NetOk_calls (by first | assumption | omega | exact Row.drewN (by assumption) _)).mono ?_; rintro e w' ⟨rfl, m, rfl⟩) | (go_at_call 56; refine (S.l1In_calls ).mono ?_; rintro e w' ⟨rfl, rfl⟩))))
    all_goals (try (go_quiet (first | (go_at_call 21; (first | exact quietB (S.NetOk_calls (by first | assumption | omega | exact Row.drewN (by assumption) _)) | exact quietD (S.NetOk_calls (by first | assumption | omega | exact Row.drewN (by assumption) _)))) | (go_at_call 56; (first | exact quietA (S.l1In_calls ) | exact quietC (S.l1In_calls )))); go_wp2_with (first | (go_at_call 21; refine (S.NetOk_calls (by first | assumption | omega | exact Row.drewN (by assumption) _)).mono ?_; rintro e w' ⟨rfl, m, rfl⟩) | (go_at_call 56; refine (S.l1In_calls ).mono ?_; rintro e w' ⟨rfl, rfl⟩))))
    all_goals (first
      | (go_ret; refine ⟨ret_int ?_, ?_⟩; (· exact (by first | rfl | (simp [S.BallOf, *]; done) | (go_light; simp [S.BallOf, *]; done) | (go_light; simp [S.BallOf, *]; omega))); exact (by first | exact ⟨_, rfl⟩ | exact ⟨0, rfl⟩ | (simp only [World.drewN_drewN, World.drew_drewN, World.drewN_drew]; exact ⟨_, rfl⟩))))

-- spec.l1Near
theorem S.l1Near_calls {net : List Int} {a_net : Option Addr} {c_net : Nat} {set_ : Int} {w : World} (r_net : Row w a_net net) (h6 : net.length ≤ 6) :
    Calls Try.prog 63 #[.slice a_net net.length c_net, .int .i64 set_] w fun e w' => e = .returned (.int .i64 (S.l1Near net set_)) ∧ w = w' := by
  have le_net := r_net.le
  go_enter Try.func63, Try.ntmps63
  go_wp2
  go_loopg [5, 6] (net.length) (fun g s5 s6 wr => ∃ (k0 : Nat) (st0 : Int), k0 + g = net.length ∧ s6 = .int .i64 (k0 : Int) ∧ s5 = .int .i64 st0 ∧ w = wr ∧ Aside (fold k0 (S.l1Near_L0 net set_) 0 = st0))
  case atStart =>
    exact ⟨0, 0, by omega, by go_num, rfl, rfl, fold_zero _ _⟩
  case round =>
    obtain ⟨g0, rfl⟩ : ∃ g : Nat, g = gk := ⟨_, rfl⟩
    obtain ⟨k0, st0, hk0, rfl, rfl, rfl, ha0⟩ := hrel
    by_cases hlt0 : k0 < net.length
    · obtain ⟨b_net, o_net, rfl, hc_net⟩ := r_net.get hlt0
      have hc_net_k0 := hc_net k0 hlt0
      go_wp2
      all_goals (first
        | (go_roundg (g0 - 1); (case measure => omega); (case rel => exact ⟨k0 + 1, ((S.l1Near_L0 net set_) st0 k0), by omega, by go_num, val_int (by first | rfl | (simp [S.l1Near_L0, *]; done) | (go_light; simp [S.l1Near_L0, *]; done) | (go_light; simp [S.l1Near_L0, *]; omega)), rfl, (fold_succ _ _ _).trans (by rw [ha0.out])⟩))
        | (go_ret; refine ⟨ret_int ?_, rfl⟩; exact (by first | rfl | (simp [S.l1Near, *]; done) | (go_light; simp [S.l1Near, *]; done) | (go_light; simp [S.l1Near, *]; omega))))
    · obtain rfl : k0 = net.length := by omega
      go_wp2
      all_goals (first
        | (go_ret; refine ⟨ret_int ?_, rfl⟩; exact (by first | rfl | (simp [S.l1Near, ha0.out, *]; done) | (go_light; simp [S.l1Near, ha0.out, *]; done) | (go_light; simp [S.l1Near, ha0.out, *]; omega))))

-- spec.SeenBy
theorem S.SeenBy_calls {net : List Int} {a_net : Option Addr} {c_net : Nat} {set_ : Int} {w : World} (r_net : Row w a_net net) :
    Calls Try.prog 28 #[.slice a_net net.length c_net, .int .i64 set_] w fun e w' => e = .returned (.int .i64 (S.SeenBy net set_)) ∧ ∃ m, w.drewN m = w' := by
  have le_net := r_net.le
  rcases Bool.eq_false_or_eq_true (S.l1SetOk net set_) with hN | hN
  · have hf := S.l1SetOk_len hN
    go_enter Try.func28, Try.ntmps28
    go_wp2_with (first | (go_at_call 62; refine (S.l1SetOk_calls (by first | assumption | omega | exact Row.drewN (by assumption) _)).mono ?_; rintro e w' ⟨rfl, m, rfl⟩) | (go_at_call 63; refine (S.l1Near_calls (by first | assumption | omega | exact Row.drewN (by assumption) _) (by first | assumption | omega | exact Row.drewN (by assumption) _)).mono ?_; rintro e w' ⟨rfl, rfl⟩))
    all_goals (first
      | (go_ret; refine ⟨ret_int ?_, ?_⟩; (· exact (by first | rfl | (simp [S.SeenBy, *]; done) | (go_light; simp [S.SeenBy, *]; done) | (go_light; simp [S.SeenBy, *]; omega))); exact (by first | exact ⟨_, rfl⟩ | exact ⟨0, rfl⟩ | (simp only [World.drewN_drewN, World.drew_drewN, World.drewN_drew]; exact ⟨_, rfl⟩))))
  · skip
    go_enter Try.func28, Try.ntmps28
    go_wp2_with (first | (go_at_call 62; refine (S.l1SetOk_calls (by first | assumption | omega | exact Row.drewN (by assumption) _)).mono ?_; rintro e w' ⟨rfl, m, rfl⟩) | (go_at_call 63; refine (S.l1Near_calls (by first | assumption | omega | exact Row.drewN (by assumption) _) (by first | assumption | omega | exact Row.drewN (by assumption) _)).mono ?_; rintro e w' ⟨rfl, rfl⟩))
    all_goals (first
      | (go_ret; refine ⟨ret_int ?_, ?_⟩; (· exact (by first | rfl | (simp [S.SeenBy, *]; done) | (go_light; simp [S.SeenBy, *]; done) | (go_light; simp [S.SeenBy, *]; omega))); exact (by first | exact ⟨_, rfl⟩ | exact ⟨0, rfl⟩ | (simp only [World.drewN_drewN, World.drew_drewN, World.drewN_drew]; exact ⟨_, rfl⟩))))

-- spec.WiresOf
theorem S.WiresOf_calls {net : List Int} {a_net : Option Addr} {c_net : Nat} {w : World} (r_net : Row w a_net net) :
    Calls Try.prog 31 #[.slice a_net net.length c_net] w fun e w' => e = .returned (.int .i64 (S.WiresOf net)) ∧ ∃ m, w.drewN m = w' := by
  have le_net := r_net.le
  rcases Bool.eq_false_or_eq_true (S.NetOk net) with hN | hN
  · have hf := S.NetOk_len hN
    go_enter Try.func31, Try.ntmps31
    go_wp2_with (first | (go_at_call 21; refine (S.NetOk_calls (by first | assumption | omega | exact Row.drewN (by assumption) _)).mono ?_; rintro e w' ⟨rfl, m, rfl⟩) | (go_at_call 65; refine (S.l1Size_calls (by first | assumption | omega | exact Row.drewN (by assumption) _)).mono ?_; rintro e w' ⟨rfl, rfl⟩))
    all_goals (try (first
      | (go_ret; refine ⟨ret_int ?_, ?_⟩; (· exact (by first | rfl | (simp [S.WiresOf, *]; done) | (go_light; simp [S.WiresOf, *]; done) | (go_light; simp [S.WiresOf, *]; omega))); exact (by first | exact ⟨_, rfl⟩ | exact ⟨0, rfl⟩ | (simp only [World.drewN_drewN, World.drew_drewN, World.drewN_drew]; exact ⟨_, rfl⟩)))))
    go_loopg [3, 4] (net.length) (fun g s3 s4 wr => ∃ (k0 : Nat) (st0 : Int), k0 + g = net.length ∧ s4 = .int .i64 (k0 : Int) ∧ s3 = .int .i64 st0 ∧ (∃ m, w.drewN m = wr) ∧ Aside (fold k0 (S.WiresOf_L0 net) 0 = st0))
    case atStart =>
      exact ⟨0, 0, by omega, by go_num, rfl, (by first | exact ⟨_, rfl⟩ | exact ⟨0, rfl⟩ | (simp only [World.drewN_drewN, World.drew_drewN, World.drewN_drew]; exact ⟨_, rfl⟩)), fold_zero _ _⟩
    case round =>
      obtain ⟨g0, rfl⟩ : ∃ g : Nat, g = gk := ⟨_, rfl⟩
      obtain ⟨k0, st0, hk0, rfl, rfl, ⟨m0, rfl⟩, ha0⟩ := hrel
      by_cases hlt0 : k0 < net.length
      · have hel := S.NetOk_el hN hlt0
        obtain ⟨b_net, o_net, rfl, hc_net⟩ := r_net.get hlt0
        have hc_net_k0 := hc_net k0 hlt0
        go_wp2_with (first | (go_at_call 21; refine (S.NetOk_calls (by first | assumption | omega | exact Row.drewN (by assumption) _)).mono ?_; rintro e w' ⟨rfl, m, rfl⟩) | (go_at_call 65; refine (S.l1Size_calls (by first | assumption | omega | exact Row.drewN (by assumption) _)).mono ?_; rintro e w' ⟨rfl, rfl⟩))
        all_goals (first
          | (go_roundg (g0 - 1); (case measure => omega); (case rel => exact ⟨k0 + 1, ((S.WiresOf_L0 net) st0 k0), by omega, by go_num, val_int (by first | rfl | (simp [S.WiresOf_L0, *]; done) | (go_light; simp [S.WiresOf_L0, *]; done) | (go_light; simp [S.WiresOf_L0, *]; omega)), (by first | exact ⟨_, rfl⟩ | exact ⟨0, rfl⟩ | (simp only [World.drewN_drewN, World.drew_drewN, World.drewN_drew]; exact ⟨_, rfl⟩)), (fold_succ _ _ _).trans (by rw [ha0.out])⟩))
          | (go_ret; refine ⟨ret_int ?_, ?_⟩; (· exact (by first | rfl | (simp [S.WiresOf, *]; done) | (go_light; simp [S.WiresOf, *]; done) | (go_light; simp [S.WiresOf, *]; omega))); exact (by first | exact ⟨_, rfl⟩ | exact ⟨0, rfl⟩ | (simp only [World.drewN_drewN, World.drew_drewN, World.drewN_drew]; exact ⟨_, rfl⟩))))
      · obtain rfl : k0 = net.length := by omega
        go_wp2_with (first | (go_at_call 21; refine (S.NetOk_calls (by first | assumption | omega | exact Row.drewN (by assumption) _)).mono ?_; rintro e w' ⟨rfl, m, rfl⟩) | (go_at_call 65; refine (S.l1Size_calls (by first | assumption | omega | exact Row.drewN (by assumption) _)).mono ?_; rintro e w' ⟨rfl, rfl⟩))
        all_goals (first
          | (go_ret; refine ⟨ret_int ?_, ?_⟩; (· exact (by first | rfl | (simp [S.WiresOf, ha0.out, *]; done) | (go_light; simp [S.WiresOf, ha0.out, *]; done) | (go_light; simp [S.WiresOf, ha0.out, *]; omega))); exact (by first | exact ⟨_, rfl⟩ | exact ⟨0, rfl⟩ | (simp only [World.drewN_drewN, World.drew_drewN, World.drewN_drew]; exact ⟨_, rfl⟩))))
  · skip
    go_enter Try.func31, Try.ntmps31
    go_wp2_with (first | (go_at_call 21; refine (S.NetOk_calls (by first | assumption | omega | exact Row.drewN (by assumption) _)).mono ?_; rintro e w' ⟨rfl, m, rfl⟩) | (go_at_call 65; refine (S.l1Size_calls (by first | assumption | omega | exact Row.drewN (by assumption) _)).mono ?_; rintro e w' ⟨rfl, rfl⟩))
    all_goals (first
      | (go_ret; refine ⟨ret_int ?_, ?_⟩; (· exact (by first | rfl | (simp [S.WiresOf, *]; done) | (go_light; simp [S.WiresOf, *]; done) | (go_light; simp [S.WiresOf, *]; omega))); exact (by first | exact ⟨_, rfl⟩ | exact ⟨0, rfl⟩ | (simp only [World.drewN_drewN, World.drew_drewN, World.drewN_drew]; exact ⟨_, rfl⟩))))

-- spec.l1Part
theorem S.l1Part_calls {net : List Int} {a_net : Option Addr} {c_net : Nat} {among : Int} {place : Int} {w : World} (r_net : Row w a_net net) (hv : S.NetOk net = true) (hg0 : 0 ≤ among) (hg1 : among ≤ 63) (h0 : 0 ≤ place) (h1 : place ≤ 5) :
    Calls Try.prog 67 #[.slice a_net net.length c_net, .int .i64 among, .int .i64 place] w fun e w' => e = .returned (.int .i64 (S.l1Part net among place)) ∧ w = w' := by
  have le_net := r_net.le
  have hf := S.NetOk_len hv
  go_enter Try.func67, Try.ntmps67
  go_wp2_with (first | (go_at_call 63; refine (S.l1Near_calls (by first | assumption | omega | exact Row.drewN (by assumption) _) (by first | assumption | omega | exact Row.drewN (by assumption) _)).mono ?_; rintro e w' ⟨rfl, rfl⟩))
  go_loopg [7, 8] (66) (fun g s7 s8 wr => ∃ (st0 : Bool × Int), s8 = .bool st0.1 ∧ s7 = .int .i64 st0.2 ∧ w = wr ∧ Aside (wh g (S.l1Part_L0_c net among place) (S.l1Part_L0 net among place) st0 = (wh 66 (S.l1Part_L0_c net among place) (S.l1Part_L0 net among place) (true, (bits BinOp.and IntKind.i64 (wrap64 (2 ^ (place).toNat)) among)))))
  case atStart =>
    exact ⟨(true, (bits BinOp.and IntKind.i64 (wrap64 (2 ^ (place).toNat)) among)), rfl, rfl, rfl, rfl⟩
  case round =>
    obtain ⟨g0, rfl⟩ : ∃ g : Nat, g = gk := ⟨_, rfl⟩
    obtain ⟨st0, rfl, rfl, rfl, ha0⟩ := hrel
    rcases Bool.eq_false_or_eq_true ((S.l1Part_L0_c net among place) st0) with hw0 | hw0
    · obtain ⟨g0', rfl⟩ : ∃ g', g0 = g' + 1 := wh_more ha0.out hw0 (S.l1Part_end hv hg0 hg1 h0 h1)
      have hu0 := hw0; simp [S.l1Part_L0_c] at hu0
      have hv0 : Aside ((S.l1Part_L0_c net among place) st0 = true) := hw0; clear hw0
      go_wp2_with (first | (go_at_call 63; refine (S.l1Near_calls (by first | assumption | omega | exact Row.drewN (by assumption) _) (by first | assumption | omega | exact Row.drewN (by assumption) _)).mono ?_; rintro e w' ⟨rfl, rfl⟩))
      all_goals (first
        | (go_roundg g0'; (case measure => omega); (case rel => exact ⟨((S.l1Part_L0 net among place) st0), val_bool (by first | rfl | (simp [S.l1Part_L0, S.l1Part_L0_c, *]; done) | (go_light; simp [S.l1Part_L0, S.l1Part_L0_c, *]; done) | (go_light; simp [S.l1Part_L0, S.l1Part_L0_c, *]; omega)), val_int (by first | rfl | (simp [S.l1Part_L0, S.l1Part_L0_c, *]; done) | (go_light; simp [S.l1Part_L0, S.l1Part_L0_c, *]; done) | (go_light; simp [S.l1Part_L0, S.l1Part_L0_c, *]; omega)), rfl, wh_step ha0.out hv0.out⟩))
        | (go_ret; refine ⟨ret_int ?_, rfl⟩; exact (by first | rfl | (simp [S.l1Part, *]; done) | (go_light; simp [S.l1Part, *]; done) | (go_light; simp [S.l1Part, *]; omega)))
        | (exfalso; go_light; simp_all; done))
    · have hz0 := wh_done ha0.out hw0
      have hu0 := hw0; simp [S.l1Part_L0_c] at hu0
      have ha0 : Aside ((wh 66 (S.l1Part_L0_c net among place) (S.l1Part_L0 net among place) (true, (bits BinOp.and IntKind.i64 (wrap64 (2 ^ (place).toNat)) among))) = st0) := hz0; clear hz0 hw0
      go_wp2_with (first | (go_at_call 63; refine (S.l1Near_calls (by first | assumption | omega | exact Row.drewN (by assumption) _) (by first | assumption | omega | exact Row.drewN (by assumption) _)).mono ?_; rintro e w' ⟨rfl, rfl⟩))
      all_goals (first
        | (go_ret; refine ⟨ret_int ?_, rfl⟩; exact (by first | rfl | (simp [S.l1Part, ha0.out, *]; done) | (go_light; simp [S.l1Part, ha0.out, *]; done) | (go_light; simp [S.l1Part, ha0.out, *]; omega)))
        | (exfalso; go_light; simp_all; done))

-- spec.PartOf
theorem S.PartOf_calls {net : List Int} {a_net : Option Addr} {c_net : Nat} {place : Int} {w : World} (r_net : Row w a_net net) :
    Calls Try.prog 36 #[.slice a_net net.length c_net, .int .i64 place] w fun e w' => e = .returned (.int .i64 (S.PartOf net place)) ∧ ∃ m, w.drewN m = w' := by
  have le_net := r_net.le
  rcases Bool.eq_false_or_eq_true (S.NetOk net) with hN | hN
  · have hf := S.NetOk_len hN
    rcases Bool.eq_false_or_eq_true (S.l1In place 0 ((net.length : Int) - 1)) with hP | hP
    · have hp := S.l1In_iff hP
      have hpw := S.pow_len hN
      go_enter Try.func36, Try.ntmps36
      go_wp2_with (first | (go_at_call 21; refine (S.NetOk_calls (by first | assumption | omega | exact Row.drewN (by assumption) _)).mono ?_; rintro e w' ⟨rfl, m, rfl⟩) | (go_at_call 56; refine (S.l1In_calls ).mono ?_; rintro e w' ⟨rfl, rfl⟩) | (go_at_call 67; refine (S.l1Part_calls (by first | assumption | omega | exact Row.drewN (by assumption) _) (by first | assumption | omega | exact Row.drewN (by assumption) _) (by first | assumption | omega | exact Row.drewN (by assumption) _) (by first | assumption | omega | exact Row.drewN (by assumption) _) (by first | assumption | omega | exact Row.drewN (by assumption) _) (by first | assumption | omega | exact Row.drewN (by assumption) _)).mono ?_; rintro e w' ⟨rfl, rfl⟩))
      all_goals (first
        | (go_ret; refine ⟨ret_int ?_, ?_⟩; (· exact (by first | rfl | (simp [S.PartOf, *]; done) | (go_light; simp [S.PartOf, *]; done) | (go_light; simp [S.PartOf, *]; omega))); exact (by first | exact ⟨_, rfl⟩ | exact ⟨0, rfl⟩ | (simp only [World.drewN_drewN, World.drew_drewN, World.drewN_drew]; exact ⟨_, rfl⟩))))
    · skip
      go_enter Try.func36, Try.ntmps36
      go_wp2_with (first | (go_at_call 21; refine (S.NetOk_calls (by first | assumption | omega | exact Row.drewN (by assumption) _)).mono ?_; rintro e w' ⟨rfl, m, rfl⟩) | (go_at_call 56; refine (S.l1In_calls ).mono ?_; rintro e w' ⟨rfl, rfl⟩) | (go_at_call 67; refine (S.l1Part_calls (by first | assumption | omega | exact Row.drewN (by assumption) _) (by first | assumption | omega | exact Row.drewN (by assumption) _) (by first | assumption | omega | exact Row.drewN (by assumption) _) (by first | assumption | omega | exact Row.drewN (by assumption) _) (by first | assumption | omega | exact Row.drewN (by assumption) _) (by first | assumption | omega | exact Row.drewN (by assumption) _)).mono ?_; rintro e w' ⟨rfl, rfl⟩))
      all_goals (first
        | (go_ret; refine ⟨ret_int ?_, ?_⟩; (· exact (by first | rfl | (simp [S.PartOf, *]; done) | (go_light; simp [S.PartOf, *]; done) | (go_light; simp [S.PartOf, *]; omega))); exact (by first | exact ⟨_, rfl⟩ | exact ⟨0, rfl⟩ | (simp only [World.drewN_drewN, World.drew_drewN, World.drewN_drew]; exact ⟨_, rfl⟩))))
  · skip
    go_enter Try.func36, Try.ntmps36
    go_wp2_with (first | (go_at_call 21; refine (S.NetOk_calls (by first | assumption | omega | exact Row.drewN (by assumption) _)).mono ?_; rintro e w' ⟨rfl, m, rfl⟩) | (go_at_call 56; refine (S.l1In_calls ).mono ?_; rintro e w' ⟨rfl, rfl⟩) | (go_at_call 67; refine (S.l1Part_calls (by first | assumption | omega | exact Row.drewN (by assumption) _) (by first | assumption | omega | exact Row.drewN (by assumption) _) (by first | assumption | omega | exact Row.drewN (by assumption) _) (by first | assumption | omega | exact Row.drewN (by assumption) _) (by first | assumption | omega | exact Row.drewN (by assumption) _) (by first | assumption | omega | exact Row.drewN (by assumption) _)).mono ?_; rintro e w' ⟨rfl, rfl⟩))
    all_goals (first
      | (go_ret; refine ⟨ret_int ?_, ?_⟩; (· exact (by first | rfl | (simp [S.PartOf, *]; done) | (go_light; simp [S.PartOf, *]; done) | (go_light; simp [S.PartOf, *]; omega))); exact (by first | exact ⟨_, rfl⟩ | exact ⟨0, rfl⟩ | (simp only [World.drewN_drewN, World.drew_drewN, World.drewN_drew]; exact ⟨_, rfl⟩))))

-- spec.l1Parts
theorem S.l1Parts_calls {net : List Int} {a_net : Option Addr} {c_net : Nat} {w : World} (r_net : Row w a_net net) (hv : S.NetOk net = true) :
    Calls Try.prog 68 #[.slice a_net net.length c_net] w fun e w' => e = .returned (.int .i64 (S.l1Parts net)) ∧ ∃ m, w.drewN m = w' := by
  have le_net := r_net.le
  have hf := S.NetOk_len hv
  have hpw := S.pow_len hv
  go_enter Try.func68, Try.ntmps68
  go_wp2_with (first | (go_at_call 67; refine (S.l1Part_calls (by first | assumption | omega | exact Row.drewN (by assumption) _) (by first | assumption | omega | exact Row.drewN (by assumption) _) (by first | assumption | omega | exact Row.drewN (by assumption) _) (by first | assumption | omega | exact Row.drewN (by assumption) _) (by first | assumption | omega | exact Row.drewN (by assumption) _) (by first | assumption | omega | exact Row.drewN (by assumption) _)).mono ?_; rintro e w' ⟨rfl, rfl⟩))
  all_goals (try (go_quiet (first | (go_at_call 67; (first | exact quietA (S.l1Part_calls (by first | assumption | omega | exact Row.drewN (by assumption) _) (by first | assumption | omega | exact Row.drewN (by assumption) _) (by first | assumption | omega | exact Row.drewN (by assumption) _) (by first | assumption | omega | exact Row.drewN (by assumption) _) (by first | assumption | omega | exact Row.drewN (by assumption) _) (by first | assumption | omega | exact Row.drewN (by assumption) _)) | exact quietC (S.l1Part_calls (by first | assumption | omega | exact Row.drewN (by assumption) _) (by first | assumption | omega | exact Row.drewN (by assumption) _) (by first | assumption | omega | exact Row.drewN (by assumption) _) (by first | assumption | omega | exact Row.drewN (by assumption) _) (by first | assumption | omega | exact Row.drewN (by assumption) _) (by first | assumption | omega | exact Row.drewN (by assumption) _))))); go_wp2_with (first | (go_at_call 67; refine (S.l1Part_calls (by first | assumption | omega | exact Row.drewN (by assumption) _) (by first | assumption | omega | exact Row.drewN (by assumption) _) (by first | assumption | omega | exact Row.drewN (by assumption) _) (by first | assumption | omega | exact Row.drewN (by assumption) _) (by first | assumption | omega | exact Row.drewN (by assumption) _) (by first | assumption | omega | exact Row.drewN (by assumption) _)).mono ?_; rintro e w' ⟨rfl, rfl⟩))))
  all_goals (try (go_quiet (first | (go_at_call 67; (first | exact quietA (S.l1Part_calls (by first | assumption | omega | exact Row.drewN (by assumption) _) (by first | assumption | omega | exact Row.drewN (by assumption) _) (by first | assumption | omega | exact Row.drewN (by assumption) _) (by first | assumption | omega | exact Row.drewN (by assumption) _) (by first | assumption | omega | exact Row.drewN (by assumption) _) (by first | assumption | omega | exact Row.drewN (by assumption) _)) | exact quietC (S.l1Part_calls (by first | assumption | omega | exact Row.drewN (by assumption) _) (by first | assumption | omega | exact Row.drewN (by assumption) _) (by first | assumption | omega | exact Row.drewN (by assumption) _) (by first | assumption | omega | exact Row.drewN (by assumption) _) (by first | assumption | omega | exact Row.drewN (by assumption) _) (by first | assumption | omega | exact Row.drewN (by assumption) _))))); go_wp2_with (first | (go_at_call 67; refine (S.l1Part_calls (by first | assumption | omega | exact Row.drewN (by assumption) _) (by first | assumption | omega | exact Row.drewN (by assumption) _) (by first | assumption | omega | exact Row.drewN (by assumption) _) (by first | assumption | omega | exact Row.drewN (by assumption) _) (by first | assumption | omega | exact Row.drewN (by assumption) _) (by first | assumption | omega | exact Row.drewN (by assumption) _)).mono ?_; rintro e w' ⟨rfl, rfl⟩))))
  go_loopg [3, 4] (net.length) (fun g s3 s4 wr => ∃ (k0 : Nat) (st0 : Int), k0 + g = net.length ∧ s4 = .int .i64 (k0 : Int) ∧ s3 = .int .i64 st0 ∧ (∃ m, w.drewN m = wr) ∧ Aside (fold k0 (S.l1Parts_L0 net) 0 = st0))
  case atStart =>
    exact ⟨0, 0, by omega, by go_num, rfl, (by first | exact ⟨_, rfl⟩ | exact ⟨0, rfl⟩ | (simp only [World.drewN_drewN, World.drew_drewN, World.drewN_drew]; exact ⟨_, rfl⟩)), fold_zero _ _⟩
  case round =>
    obtain ⟨g0, rfl⟩ : ∃ g : Nat, g = gk := ⟨_, rfl⟩
    obtain ⟨k0, st0, hk0, rfl, rfl, ⟨m0, rfl⟩, ha0⟩ := hrel
    by_cases hlt0 : k0 < net.length
    · go_wp2_with (first | (go_at_call 67; refine (S.l1Part_calls (by first | assumption | omega | exact Row.drewN (by assumption) _) (by first | assumption | omega | exact Row.drewN (by assumption) _) (by first | assumption | omega | exact Row.drewN (by assumption) _) (by first | assumption | omega | exact Row.drewN (by assumption) _) (by first | assumption | omega | exact Row.drewN (by assumption) _) (by first | assumption | omega | exact Row.drewN (by assumption) _)).mono ?_; rintro e w' ⟨rfl, rfl⟩))
      all_goals (try (go_quiet (first | (go_at_call 67; (first | exact quietA (S.l1Part_calls (by first | assumption | omega | exact Row.drewN (by assumption) _) (by first | assumption | omega | exact Row.drewN (by assumption) _) (by first | assumption | omega | exact Row.drewN (by assumption) _) (by first | assumption | omega | exact Row.drewN (by assumption) _) (by first | assumption | omega | exact Row.drewN (by assumption) _) (by first | assumption | omega | exact Row.drewN (by assumption) _)) | exact quietC (S.l1Part_calls (by first | assumption | omega | exact Row.drewN (by assumption) _) (by first | assumption | omega | exact Row.drewN (by assumption) _) (by first | assumption | omega | exact Row.drewN (by assumption) _) (by first | assumption | omega | exact Row.drewN (by assumption) _) (by first | assumption | omega | exact Row.drewN (by assumption) _) (by first | assumption | omega | exact Row.drewN (by assumption) _))))); go_wp2_with (first | (go_at_call 67; refine (S.l1Part_calls (by first | assumption | omega | exact Row.drewN (by assumption) _) (by first | assumption | omega | exact Row.drewN (by assumption) _) (by first | assumption | omega | exact Row.drewN (by assumption) _) (by first | assumption | omega | exact Row.drewN (by assumption) _) (by first | assumption | omega | exact Row.drewN (by assumption) _) (by first | assumption | omega | exact Row.drewN (by assumption) _)).mono ?_; rintro e w' ⟨rfl, rfl⟩))))
      all_goals (try (go_quiet (first | (go_at_call 67; (first | exact quietA (S.l1Part_calls (by first | assumption | omega | exact Row.drewN (by assumption) _) (by first | assumption | omega | exact Row.drewN (by assumption) _) (by first | assumption | omega | exact Row.drewN (by assumption) _) (by first | assumption | omega | exact Row.drewN (by assumption) _) (by first | assumption | omega | exact Row.drewN (by assumption) _) (by first | assumption | omega | exact Row.drewN (by assumption) _)) | exact quietC (S.l1Part_calls (by first | assumption | omega | exact Row.drewN (by assumption) _) (by first | assumption | omega | exact Row.drewN (by assumption) _) (by first | assumption | omega | exact Row.drewN (by assumption) _) (by first | assumption | omega | exact Row.drewN (by assumption) _) (by first | assumption | omega | exact Row.drewN (by assumption) _) (by first | assumption | omega | exact Row.drewN (by assumption) _))))); go_wp2_with (first | (go_at_call 67; refine (S.l1Part_calls (by first | assumption | omega | exact Row.drewN (by assumption) _) (by first | assumption | omega | exact Row.drewN (by assumption) _) (by first | assumption | omega | exact Row.drewN (by assumption) _) (by first | assumption | omega | exact Row.drewN (by assumption) _) (by first | assumption | omega | exact Row.drewN (by assumption) _) (by first | assumption | omega | exact Row.drewN (by assumption) _)).mono ?_; rintro e w' ⟨rfl, rfl⟩))))
      all_goals (first
        | (go_roundg (g0 - 1); (case measure => omega); (case rel => exact ⟨k0 + 1, ((S.l1Parts_L0 net) st0 k0), by omega, by go_num, val_int (by first | rfl | (simp [S.l1Parts_L0, *]; done) | (go_light; simp [S.l1Parts_L0, *]; done) | (go_light; simp [S.l1Parts_L0, *]; omega)), (by first | exact ⟨_, rfl⟩ | exact ⟨0, rfl⟩ | (simp only [World.drewN_drewN, World.drew_drewN, World.drewN_drew]; exact ⟨_, rfl⟩)), (fold_succ _ _ _).trans (by rw [ha0.out])⟩))
        | (go_ret; refine ⟨ret_int ?_, ?_⟩; (· exact (by first | rfl | (simp [S.l1Parts, *]; done) | (go_light; simp [S.l1Parts, *]; done) | (go_light; simp [S.l1Parts, *]; omega))); exact (by first | exact ⟨_, rfl⟩ | exact ⟨0, rfl⟩ | (simp only [World.drewN_drewN, World.drew_drewN, World.drewN_drew]; exact ⟨_, rfl⟩))))
    · obtain rfl : k0 = net.length := by omega
      go_wp2_with (first | (go_at_call 67; refine (S.l1Part_calls (by first | assumption | omega | exact Row.drewN (by assumption) _) (by first | assumption | omega | exact Row.drewN (by assumption) _) (by first | assumption | omega | exact Row.drewN (by assumption) _) (by first | assumption | omega | exact Row.drewN (by assumption) _) (by first | assumption | omega | exact Row.drewN (by assumption) _) (by first | assumption | omega | exact Row.drewN (by assumption) _)).mono ?_; rintro e w' ⟨rfl, rfl⟩))
      all_goals (try (go_quiet (first | (go_at_call 67; (first | exact quietA (S.l1Part_calls (by first | assumption | omega | exact Row.drewN (by assumption) _) (by first | assumption | omega | exact Row.drewN (by assumption) _) (by first | assumption | omega | exact Row.drewN (by assumption) _) (by first | assumption | omega | exact Row.drewN (by assumption) _) (by first | assumption | omega | exact Row.drewN (by assumption) _) (by first | assumption | omega | exact Row.drewN (by assumption) _)) | exact quietC (S.l1Part_calls (by first | assumption | omega | exact Row.drewN (by assumption) _) (by first | assumption | omega | exact Row.drewN (by assumption) _) (by first | assumption | omega | exact Row.drewN (by assumption) _) (by first | assumption | omega | exact Row.drewN (by assumption) _) (by first | assumption | omega | exact Row.drewN (by assumption) _) (by first | assumption | omega | exact Row.drewN (by assumption) _))))); go_wp2_with (first | (go_at_call 67; refine (S.l1Part_calls (by first | assumption | omega | exact Row.drewN (by assumption) _) (by first | assumption | omega | exact Row.drewN (by assumption) _) (by first | assumption | omega | exact Row.drewN (by assumption) _) (by first | assumption | omega | exact Row.drewN (by assumption) _) (by first | assumption | omega | exact Row.drewN (by assumption) _) (by first | assumption | omega | exact Row.drewN (by assumption) _)).mono ?_; rintro e w' ⟨rfl, rfl⟩))))
      all_goals (try (go_quiet (first | (go_at_call 67; (first | exact quietA (S.l1Part_calls (by first | assumption | omega | exact Row.drewN (by assumption) _) (by first | assumption | omega | exact Row.drewN (by assumption) _) (by first | assumption | omega | exact Row.drewN (by assumption) _) (by first | assumption | omega | exact Row.drewN (by assumption) _) (by first | assumption | omega | exact Row.drewN (by assumption) _) (by first | assumption | omega | exact Row.drewN (by assumption) _)) | exact quietC (S.l1Part_calls (by first | assumption | omega | exact Row.drewN (by assumption) _) (by first | assumption | omega | exact Row.drewN (by assumption) _) (by first | assumption | omega | exact Row.drewN (by assumption) _) (by first | assumption | omega | exact Row.drewN (by assumption) _) (by first | assumption | omega | exact Row.drewN (by assumption) _) (by first | assumption | omega | exact Row.drewN (by assumption) _))))); go_wp2_with (first | (go_at_call 67; refine (S.l1Part_calls (by first | assumption | omega | exact Row.drewN (by assumption) _) (by first | assumption | omega | exact Row.drewN (by assumption) _) (by first | assumption | omega | exact Row.drewN (by assumption) _) (by first | assumption | omega | exact Row.drewN (by assumption) _) (by first | assumption | omega | exact Row.drewN (by assumption) _) (by first | assumption | omega | exact Row.drewN (by assumption) _)).mono ?_; rintro e w' ⟨rfl, rfl⟩))))
      all_goals (first
        | (go_ret; refine ⟨ret_int ?_, ?_⟩; (· exact (by first | rfl | (simp [S.l1Parts, ha0.out, *]; done) | (go_light; simp [S.l1Parts, ha0.out, *]; done) | (go_light; simp [S.l1Parts, ha0.out, *]; omega))); exact (by first | exact ⟨_, rfl⟩ | exact ⟨0, rfl⟩ | (simp only [World.drewN_drewN, World.drew_drewN, World.drewN_drew]; exact ⟨_, rfl⟩))))

-- spec.PartMany
theorem S.PartMany_calls {net : List Int} {a_net : Option Addr} {c_net : Nat} {w : World} (r_net : Row w a_net net) :
    Calls Try.prog 38 #[.slice a_net net.length c_net] w fun e w' => e = .returned (.int .i64 (S.PartMany net)) ∧ ∃ m, w.drewN m = w' := by
  have le_net := r_net.le
  rcases Bool.eq_false_or_eq_true (S.NetOk net) with hN | hN
  · have hf := S.NetOk_len hN
    go_enter Try.func38, Try.ntmps38
    go_wp2_with (first | (go_at_call 21; refine (S.NetOk_calls (by first | assumption | omega | exact Row.drewN (by assumption) _)).mono ?_; rintro e w' ⟨rfl, m, rfl⟩) | (go_at_call 68; refine (S.l1Parts_calls (by first | assumption | omega | exact Row.drewN (by assumption) _) (by first | assumption | omega | exact Row.drewN (by assumption) _)).mono ?_; rintro e w' ⟨rfl, m, rfl⟩))
    all_goals (first
      | (go_ret; refine ⟨ret_int ?_, ?_⟩; (· exact (by first | rfl | (simp [S.PartMany, *]; done) | (go_light; simp [S.PartMany, *]; done) | (go_light; simp [S.PartMany, *]; omega))); exact (by first | exact ⟨_, rfl⟩ | exact ⟨0, rfl⟩ | (simp only [World.drewN_drewN, World.drew_drewN, World.drewN_drew]; exact ⟨_, rfl⟩))))
  · skip
    go_enter Try.func38, Try.ntmps38
    go_wp2_with (first | (go_at_call 21; refine (S.NetOk_calls (by first | assumption | omega | exact Row.drewN (by assumption) _)).mono ?_; rintro e w' ⟨rfl, m, rfl⟩) | (go_at_call 68; refine (S.l1Parts_calls (by first | assumption | omega | exact Row.drewN (by assumption) _) (by first | assumption | omega | exact Row.drewN (by assumption) _)).mono ?_; rintro e w' ⟨rfl, m, rfl⟩))
    all_goals (first
      | (go_ret; refine ⟨ret_int ?_, ?_⟩; (· exact (by first | rfl | (simp [S.PartMany, *]; done) | (go_light; simp [S.PartMany, *]; done) | (go_light; simp [S.PartMany, *]; omega))); exact (by first | exact ⟨_, rfl⟩ | exact ⟨0, rfl⟩ | (simp only [World.drewN_drewN, World.drew_drewN, World.drewN_drew]; exact ⟨_, rfl⟩))))

-- spec.LoneOf
theorem S.LoneOf_calls {net : List Int} {a_net : Option Addr} {c_net : Nat} {w : World} (r_net : Row w a_net net) :
    Calls Try.prog 41 #[.slice a_net net.length c_net] w fun e w' => e = .returned (.int .i64 (S.LoneOf net)) ∧ ∃ m, w.drewN m = w' := by
  have le_net := r_net.le
  rcases Bool.eq_false_or_eq_true (S.NetOk net) with hN | hN
  · have hf := S.NetOk_len hN
    go_enter Try.func41, Try.ntmps41
    go_wp2_with (first | (go_at_call 21; refine (S.NetOk_calls (by first | assumption | omega | exact Row.drewN (by assumption) _)).mono ?_; rintro e w' ⟨rfl, m, rfl⟩))
    all_goals (try (first
      | (go_ret; refine ⟨ret_int ?_, ?_⟩; (· exact (by first | rfl | (simp [S.LoneOf, *]; done) | (go_light; simp [S.LoneOf, *]; done) | (go_light; simp [S.LoneOf, *]; omega))); exact (by first | exact ⟨_, rfl⟩ | exact ⟨0, rfl⟩ | (simp only [World.drewN_drewN, World.drew_drewN, World.drewN_drew]; exact ⟨_, rfl⟩)))))
    go_loopg [3, 4] (net.length) (fun g s3 s4 wr => ∃ (k0 : Nat) (st0 : Int), k0 + g = net.length ∧ s4 = .int .i64 (k0 : Int) ∧ s3 = .int .i64 st0 ∧ (∃ m, w.drewN m = wr) ∧ Aside (fold k0 (S.LoneOf_L0 net) 0 = st0))
    case atStart =>
      exact ⟨0, 0, by omega, by go_num, rfl, (by first | exact ⟨_, rfl⟩ | exact ⟨0, rfl⟩ | (simp only [World.drewN_drewN, World.drew_drewN, World.drewN_drew]; exact ⟨_, rfl⟩)), fold_zero _ _⟩
    case round =>
      obtain ⟨g0, rfl⟩ : ∃ g : Nat, g = gk := ⟨_, rfl⟩
      obtain ⟨k0, st0, hk0, rfl, rfl, ⟨m0, rfl⟩, ha0⟩ := hrel
      by_cases hlt0 : k0 < net.length
      · obtain ⟨b_net, o_net, rfl, hc_net⟩ := r_net.get hlt0
        have hc_net_k0 := hc_net k0 hlt0
        go_wp2_with (first | (go_at_call 21; refine (S.NetOk_calls (by first | assumption | omega | exact Row.drewN (by assumption) _)).mono ?_; rintro e w' ⟨rfl, m, rfl⟩))
        all_goals (first
          | (go_roundg (g0 - 1); (case measure => omega); (case rel => exact ⟨k0 + 1, ((S.LoneOf_L0 net) st0 k0), by omega, by go_num, val_int (by first | rfl | (simp [S.LoneOf_L0, *]; done) | (go_light; simp [S.LoneOf_L0, *]; done) | (go_light; simp [S.LoneOf_L0, *]; omega)), (by first | exact ⟨_, rfl⟩ | exact ⟨0, rfl⟩ | (simp only [World.drewN_drewN, World.drew_drewN, World.drewN_drew]; exact ⟨_, rfl⟩)), (fold_succ _ _ _).trans (by rw [ha0.out])⟩))
          | (go_ret; refine ⟨ret_int ?_, ?_⟩; (· exact (by first | rfl | (simp [S.LoneOf, *]; done) | (go_light; simp [S.LoneOf, *]; done) | (go_light; simp [S.LoneOf, *]; omega))); exact (by first | exact ⟨_, rfl⟩ | exact ⟨0, rfl⟩ | (simp only [World.drewN_drewN, World.drew_drewN, World.drewN_drew]; exact ⟨_, rfl⟩))))
      · obtain rfl : k0 = net.length := by omega
        go_wp2_with (first | (go_at_call 21; refine (S.NetOk_calls (by first | assumption | omega | exact Row.drewN (by assumption) _)).mono ?_; rintro e w' ⟨rfl, m, rfl⟩))
        all_goals (first
          | (go_ret; refine ⟨ret_int ?_, ?_⟩; (· exact (by first | rfl | (simp [S.LoneOf, ha0.out, *]; done) | (go_light; simp [S.LoneOf, ha0.out, *]; done) | (go_light; simp [S.LoneOf, ha0.out, *]; omega))); exact (by first | exact ⟨_, rfl⟩ | exact ⟨0, rfl⟩ | (simp only [World.drewN_drewN, World.drew_drewN, World.drewN_drew]; exact ⟨_, rfl⟩))))
  · skip
    go_enter Try.func41, Try.ntmps41
    go_wp2_with (first | (go_at_call 21; refine (S.NetOk_calls (by first | assumption | omega | exact Row.drewN (by assumption) _)).mono ?_; rintro e w' ⟨rfl, m, rfl⟩))
    all_goals (first
      | (go_ret; refine ⟨ret_int ?_, ?_⟩; (· exact (by first | rfl | (simp [S.LoneOf, *]; done) | (go_light; simp [S.LoneOf, *]; done) | (go_light; simp [S.LoneOf, *]; omega))); exact (by first | exact ⟨_, rfl⟩ | exact ⟨0, rfl⟩ | (simp only [World.drewN_drewN, World.drew_drewN, World.drewN_drew]; exact ⟨_, rfl⟩))))

-- spec.l1Order
theorem S.l1Order_calls {many : Int} {order : List Int} {a_order : Option Addr} {c_order : Nat} {w : World} (r_order : Row w a_order order) (h6 : many ≤ 6) (h0 : 0 ≤ many) :
    Calls Try.prog 72 #[.int .i64 many, .slice a_order order.length c_order] w fun e w' => e = .returned (.bool (S.l1Order many order)) ∧ w = w' := by
  have le_order := r_order.le
  go_enter Try.func72, Try.ntmps72
  go_wp2
  go_loopg [5, 6] (order.length) (fun g s5 s6 wr => ∃ (k0 : Nat) (st0 : Int), k0 + g = order.length ∧ s6 = .int .i64 (k0 : Int) ∧ s5 = .int .i64 st0 ∧ w = wr ∧ Aside (loopE k0 (S.l1Order_L0 many order) 0 = .inr st0))
  case atStart =>
    exact ⟨0, 0, by omega, by go_num, rfl, rfl, loopE_zero _ _⟩
  case round =>
    obtain ⟨g0, rfl⟩ : ∃ g : Nat, g = gk := ⟨_, rfl⟩
    obtain ⟨k0, st0, hk0, rfl, rfl, rfl, ha0⟩ := hrel
    by_cases hlt0 : k0 < order.length
    · obtain ⟨b_order, o_order, rfl, hc_order⟩ := r_order.get hlt0
      have hc_k := hc_order k0 hlt0
      rcases Bool.eq_false_or_eq_true (decide (el order k0 < 0)) with hq1 | hq1
      · have hq1' := of_decide_eq_true hq1
        rcases Bool.eq_false_or_eq_true (decide (many ≤ el order k0)) with hq2 | hq2
        · have hq2' := of_decide_eq_true hq2
          have hc_order_k0 := hc_order k0 hlt0
          go_wp2
          all_goals (first
            | (go_roundg (g0 - 1); (case measure => omega); (case rel => exact ⟨k0 + 1, _, by omega, by go_num, rfl, rfl, (loopE_succ ha0.out).trans (by first | rfl | (simp [S.l1Order_L0, *]; done) | (go_light; simp [S.l1Order_L0, *]; done) | (go_light; simp [S.l1Order_L0, *]; omega))⟩))
            | (have fi0 : (loopE order.length (S.l1Order_L0 many order) 0) = .inl false := loopE_left hlt0 ha0.out (by first | rfl | (simp [S.l1Order_L0, *]; done) | (go_light; simp [S.l1Order_L0, *]; done) | (go_light; simp [S.l1Order_L0, *]; omega)); go_ret; refine ⟨ret_bool ?_, rfl⟩; exact (by first | rfl | (simp [S.l1Order, fi0, *]; done) | (go_light; simp [S.l1Order, fi0, *]; done) | (go_light; simp [S.l1Order, fi0, *]; omega))))
        · have hq2' := of_decide_eq_false hq2
          have hc_order_k0 := hc_order k0 hlt0
          go_wp2
          all_goals (first
            | (go_roundg (g0 - 1); (case measure => omega); (case rel => exact ⟨k0 + 1, _, by omega, by go_num, rfl, rfl, (loopE_succ ha0.out).trans (by first | rfl | (simp [S.l1Order_L0, *]; done) | (go_light; simp [S.l1Order_L0, *]; done) | (go_light; simp [S.l1Order_L0, *]; omega))⟩))
            | (have fi0 : (loopE order.length (S.l1Order_L0 many order) 0) = .inl false := loopE_left hlt0 ha0.out (by first | rfl | (simp [S.l1Order_L0, *]; done) | (go_light; simp [S.l1Order_L0, *]; done) | (go_light; simp [S.l1Order_L0, *]; omega)); go_ret; refine ⟨ret_bool ?_, rfl⟩; exact (by first | rfl | (simp [S.l1Order, fi0, *]; done) | (go_light; simp [S.l1Order, fi0, *]; done) | (go_light; simp [S.l1Order, fi0, *]; omega))))
      · have hq1' := of_decide_eq_false hq1
        rcases Bool.eq_false_or_eq_true (decide (many ≤ el order k0)) with hq2 | hq2
        · have hq2' := of_decide_eq_true hq2
          have hc_order_k0 := hc_order k0 hlt0
          go_wp2
          all_goals (first
            | (go_roundg (g0 - 1); (case measure => omega); (case rel => exact ⟨k0 + 1, _, by omega, by go_num, rfl, rfl, (loopE_succ ha0.out).trans (by first | rfl | (simp [S.l1Order_L0, *]; done) | (go_light; simp [S.l1Order_L0, *]; done) | (go_light; simp [S.l1Order_L0, *]; omega))⟩))
            | (have fi0 : (loopE order.length (S.l1Order_L0 many order) 0) = .inl false := loopE_left hlt0 ha0.out (by first | rfl | (simp [S.l1Order_L0, *]; done) | (go_light; simp [S.l1Order_L0, *]; done) | (go_light; simp [S.l1Order_L0, *]; omega)); go_ret; refine ⟨ret_bool ?_, rfl⟩; exact (by first | rfl | (simp [S.l1Order, fi0, *]; done) | (go_light; simp [S.l1Order, fi0, *]; done) | (go_light; simp [S.l1Order, fi0, *]; omega))))
        · have hq2' := of_decide_eq_false hq2
          have hc_order_k0 := hc_order k0 hlt0
          go_wp2
          all_goals (first
            | (go_roundg (g0 - 1); (case measure => omega); (case rel => exact ⟨k0 + 1, _, by omega, by go_num, rfl, rfl, (loopE_succ ha0.out).trans (by first | rfl | (simp [S.l1Order_L0, *]; done) | (go_light; simp [S.l1Order_L0, *]; done) | (go_light; simp [S.l1Order_L0, *]; omega))⟩))
            | (have fi0 : (loopE order.length (S.l1Order_L0 many order) 0) = .inl false := loopE_left hlt0 ha0.out (by first | rfl | (simp [S.l1Order_L0, *]; done) | (go_light; simp [S.l1Order_L0, *]; done) | (go_light; simp [S.l1Order_L0, *]; omega)); go_ret; refine ⟨ret_bool ?_, rfl⟩; exact (by first | rfl | (simp [S.l1Order, fi0, *]; done) | (go_light; simp [S.l1Order, fi0, *]; done) | (go_light; simp [S.l1Order, fi0, *]; omega))))
    · obtain rfl : k0 = order.length := by omega
      go_wp2
      all_goals (first
        | (go_ret; refine ⟨ret_bool ?_, rfl⟩; exact (by first | rfl | (simp [S.l1Order, ha0.out, *]; done) | (go_light; simp [S.l1Order, ha0.out, *]; done) | (go_light; simp [S.l1Order, ha0.out, *]; omega))))

end Go.Proofs.Ytpgcbaaopeinkaa
