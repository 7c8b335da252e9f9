/- What the program's trees do: bits.Len, Split. -/
import Derived.Test.YtogmdaopfnmobaaGreatC22
set_option maxRecDepth 100000
namespace Go.Proofs.YtogmdaopfnmobaaGreat
open Go.RowKit
def LenIs (n : Nat) : Prop := ∀ w : World, Calls Tryz.prog 147 #[.int .u64 n] w fun e w' => e = .returned (.int .i64 ((n.log2 + 1 : Nat) : Int)) ∧ w' = w
theorem len_1 : LenIs 1 := fun w => by
  go_enter Tryz.func147, Tryz.ntmps147
  go_wp2
  go_ret
  exact ⟨by kernel_rfl, rfl⟩
theorem len_2 : LenIs 2 := fun w => by
  go_enter Tryz.func147, Tryz.ntmps147
  go_wp2
  go_ret
  exact ⟨by kernel_rfl, rfl⟩
theorem len_3 : LenIs 3 := fun w => by
  go_enter Tryz.func147, Tryz.ntmps147
  go_wp2
  go_ret
  exact ⟨by kernel_rfl, rfl⟩
theorem len_4 : LenIs 4 := fun w => by
  go_enter Tryz.func147, Tryz.ntmps147
  go_wp2
  go_ret
  exact ⟨by kernel_rfl, rfl⟩
theorem len_5 : LenIs 5 := fun w => by
  go_enter Tryz.func147, Tryz.ntmps147
  go_wp2
  go_ret
  exact ⟨by kernel_rfl, rfl⟩
theorem len_6 : LenIs 6 := fun w => by
  go_enter Tryz.func147, Tryz.ntmps147
  go_wp2
  go_ret
  exact ⟨by kernel_rfl, rfl⟩
theorem len_7 : LenIs 7 := fun w => by
  go_enter Tryz.func147, Tryz.ntmps147
  go_wp2
  go_ret
  exact ⟨by kernel_rfl, rfl⟩
theorem len_8 : LenIs 8 := fun w => by
  go_enter Tryz.func147, Tryz.ntmps147
  go_wp2
  go_ret
  exact ⟨by kernel_rfl, rfl⟩
theorem len_9 : LenIs 9 := fun w => by
  go_enter Tryz.func147, Tryz.ntmps147
  go_wp2
  go_ret
  exact ⟨by kernel_rfl, rfl⟩
theorem len_10 : LenIs 10 := fun w => by
  go_enter Tryz.func147, Tryz.ntmps147
  go_wp2
  go_ret
  exact ⟨by kernel_rfl, rfl⟩
theorem len_11 : LenIs 11 := fun w => by
  go_enter Tryz.func147, Tryz.ntmps147
  go_wp2
  go_ret
  exact ⟨by kernel_rfl, rfl⟩
theorem len_12 : LenIs 12 := fun w => by
  go_enter Tryz.func147, Tryz.ntmps147
  go_wp2
  go_ret
  exact ⟨by kernel_rfl, rfl⟩
theorem len_13 : LenIs 13 := fun w => by
  go_enter Tryz.func147, Tryz.ntmps147
  go_wp2
  go_ret
  exact ⟨by kernel_rfl, rfl⟩
theorem len_14 : LenIs 14 := fun w => by
  go_enter Tryz.func147, Tryz.ntmps147
  go_wp2
  go_ret
  exact ⟨by kernel_rfl, rfl⟩
theorem len_15 : LenIs 15 := fun w => by
  go_enter Tryz.func147, Tryz.ntmps147
  go_wp2
  go_ret
  exact ⟨by kernel_rfl, rfl⟩
theorem len_16 : LenIs 16 := fun w => by
  go_enter Tryz.func147, Tryz.ntmps147
  go_wp2
  go_ret
  exact ⟨by kernel_rfl, rfl⟩
theorem len_17 : LenIs 17 := fun w => by
  go_enter Tryz.func147, Tryz.ntmps147
  go_wp2
  go_ret
  exact ⟨by kernel_rfl, rfl⟩
theorem len_18 : LenIs 18 := fun w => by
  go_enter Tryz.func147, Tryz.ntmps147
  go_wp2
  go_ret
  exact ⟨by kernel_rfl, rfl⟩
theorem len_19 : LenIs 19 := fun w => by
  go_enter Tryz.func147, Tryz.ntmps147
  go_wp2
  go_ret
  exact ⟨by kernel_rfl, rfl⟩
theorem len_20 : LenIs 20 := fun w => by
  go_enter Tryz.func147, Tryz.ntmps147
  go_wp2
  go_ret
  exact ⟨by kernel_rfl, rfl⟩
theorem len_21 : LenIs 21 := fun w => by
  go_enter Tryz.func147, Tryz.ntmps147
  go_wp2
  go_ret
  exact ⟨by kernel_rfl, rfl⟩
theorem len_22 : LenIs 22 := fun w => by
  go_enter Tryz.func147, Tryz.ntmps147
  go_wp2
  go_ret
  exact ⟨by kernel_rfl, rfl⟩
theorem len_23 : LenIs 23 := fun w => by
  go_enter Tryz.func147, Tryz.ntmps147
  go_wp2
  go_ret
  exact ⟨by kernel_rfl, rfl⟩
theorem len_24 : LenIs 24 := fun w => by
  go_enter Tryz.func147, Tryz.ntmps147
  go_wp2
  go_ret
  exact ⟨by kernel_rfl, rfl⟩
theorem len_25 : LenIs 25 := fun w => by
  go_enter Tryz.func147, Tryz.ntmps147
  go_wp2
  go_ret
  exact ⟨by kernel_rfl, rfl⟩
theorem len_26 : LenIs 26 := fun w => by
  go_enter Tryz.func147, Tryz.ntmps147
  go_wp2
  go_ret
  exact ⟨by kernel_rfl, rfl⟩
theorem len_27 : LenIs 27 := fun w => by
  go_enter Tryz.func147, Tryz.ntmps147
  go_wp2
  go_ret
  exact ⟨by kernel_rfl, rfl⟩
theorem len_28 : LenIs 28 := fun w => by
  go_enter Tryz.func147, Tryz.ntmps147
  go_wp2
  go_ret
  exact ⟨by kernel_rfl, rfl⟩
theorem len_29 : LenIs 29 := fun w => by
  go_enter Tryz.func147, Tryz.ntmps147
  go_wp2
  go_ret
  exact ⟨by kernel_rfl, rfl⟩
theorem len_30 : LenIs 30 := fun w => by
  go_enter Tryz.func147, Tryz.ntmps147
  go_wp2
  go_ret
  exact ⟨by kernel_rfl, rfl⟩
theorem len_31 : LenIs 31 := fun w => by
  go_enter Tryz.func147, Tryz.ntmps147
  go_wp2
  go_ret
  exact ⟨by kernel_rfl, rfl⟩
theorem len_32 : LenIs 32 := fun w => by
  go_enter Tryz.func147, Tryz.ntmps147
  go_wp2
  go_ret
  exact ⟨by kernel_rfl, rfl⟩
theorem len_33 : LenIs 33 := fun w => by
  go_enter Tryz.func147, Tryz.ntmps147
  go_wp2
  go_ret
  exact ⟨by kernel_rfl, rfl⟩
theorem len_34 : LenIs 34 := fun w => by
  go_enter Tryz.func147, Tryz.ntmps147
  go_wp2
  go_ret
  exact ⟨by kernel_rfl, rfl⟩
theorem len_35 : LenIs 35 := fun w => by
  go_enter Tryz.func147, Tryz.ntmps147
  go_wp2
  go_ret
  exact ⟨by kernel_rfl, rfl⟩
theorem len_36 : LenIs 36 := fun w => by
  go_enter Tryz.func147, Tryz.ntmps147
  go_wp2
  go_ret
  exact ⟨by kernel_rfl, rfl⟩
theorem len_37 : LenIs 37 := fun w => by
  go_enter Tryz.func147, Tryz.ntmps147
  go_wp2
  go_ret
  exact ⟨by kernel_rfl, rfl⟩
theorem len_38 : LenIs 38 := fun w => by
  go_enter Tryz.func147, Tryz.ntmps147
  go_wp2
  go_ret
  exact ⟨by kernel_rfl, rfl⟩
theorem len_39 : LenIs 39 := fun w => by
  go_enter Tryz.func147, Tryz.ntmps147
  go_wp2
  go_ret
  exact ⟨by kernel_rfl, rfl⟩
theorem len_40 : LenIs 40 := fun w => by
  go_enter Tryz.func147, Tryz.ntmps147
  go_wp2
  go_ret
  exact ⟨by kernel_rfl, rfl⟩
theorem len_41 : LenIs 41 := fun w => by
  go_enter Tryz.func147, Tryz.ntmps147
  go_wp2
  go_ret
  exact ⟨by kernel_rfl, rfl⟩
theorem len_42 : LenIs 42 := fun w => by
  go_enter Tryz.func147, Tryz.ntmps147
  go_wp2
  go_ret
  exact ⟨by kernel_rfl, rfl⟩
theorem len_43 : LenIs 43 := fun w => by
  go_enter Tryz.func147, Tryz.ntmps147
  go_wp2
  go_ret
  exact ⟨by kernel_rfl, rfl⟩
theorem len_44 : LenIs 44 := fun w => by
  go_enter Tryz.func147, Tryz.ntmps147
  go_wp2
  go_ret
  exact ⟨by kernel_rfl, rfl⟩
theorem len_45 : LenIs 45 := fun w => by
  go_enter Tryz.func147, Tryz.ntmps147
  go_wp2
  go_ret
  exact ⟨by kernel_rfl, rfl⟩
theorem len_46 : LenIs 46 := fun w => by
  go_enter Tryz.func147, Tryz.ntmps147
  go_wp2
  go_ret
  exact ⟨by kernel_rfl, rfl⟩
theorem len_47 : LenIs 47 := fun w => by
  go_enter Tryz.func147, Tryz.ntmps147
  go_wp2
  go_ret
  exact ⟨by kernel_rfl, rfl⟩
theorem len_48 : LenIs 48 := fun w => by
  go_enter Tryz.func147, Tryz.ntmps147
  go_wp2
  go_ret
  exact ⟨by kernel_rfl, rfl⟩
theorem len_49 : LenIs 49 := fun w => by
  go_enter Tryz.func147, Tryz.ntmps147
  go_wp2
  go_ret
  exact ⟨by kernel_rfl, rfl⟩
theorem len_50 : LenIs 50 := fun w => by
  go_enter Tryz.func147, Tryz.ntmps147
  go_wp2
  go_ret
  exact ⟨by kernel_rfl, rfl⟩
theorem len_51 : LenIs 51 := fun w => by
  go_enter Tryz.func147, Tryz.ntmps147
  go_wp2
  go_ret
  exact ⟨by kernel_rfl, rfl⟩
theorem len_52 : LenIs 52 := fun w => by
  go_enter Tryz.func147, Tryz.ntmps147
  go_wp2
  go_ret
  exact ⟨by kernel_rfl, rfl⟩
theorem len_53 : LenIs 53 := fun w => by
  go_enter Tryz.func147, Tryz.ntmps147
  go_wp2
  go_ret
  exact ⟨by kernel_rfl, rfl⟩
theorem len_54 : LenIs 54 := fun w => by
  go_enter Tryz.func147, Tryz.ntmps147
  go_wp2
  go_ret
  exact ⟨by kernel_rfl, rfl⟩
theorem len_55 : LenIs 55 := fun w => by
  go_enter Tryz.func147, Tryz.ntmps147
  go_wp2
  go_ret
  exact ⟨by kernel_rfl, rfl⟩
theorem len_56 : LenIs 56 := fun w => by
  go_enter Tryz.func147, Tryz.ntmps147
  go_wp2
  go_ret
  exact ⟨by kernel_rfl, rfl⟩
theorem len_57 : LenIs 57 := fun w => by
  go_enter Tryz.func147, Tryz.ntmps147
  go_wp2
  go_ret
  exact ⟨by kernel_rfl, rfl⟩
theorem len_58 : LenIs 58 := fun w => by
  go_enter Tryz.func147, Tryz.ntmps147
  go_wp2
  go_ret
  exact ⟨by kernel_rfl, rfl⟩
theorem len_59 : LenIs 59 := fun w => by
  go_enter Tryz.func147, Tryz.ntmps147
  go_wp2
  go_ret
  exact ⟨by kernel_rfl, rfl⟩
theorem len_60 : LenIs 60 := fun w => by
  go_enter Tryz.func147, Tryz.ntmps147
  go_wp2
  go_ret
  exact ⟨by kernel_rfl, rfl⟩
theorem len_61 : LenIs 61 := fun w => by
  go_enter Tryz.func147, Tryz.ntmps147
  go_wp2
  go_ret
  exact ⟨by kernel_rfl, rfl⟩
theorem len_62 : LenIs 62 := fun w => by
  go_enter Tryz.func147, Tryz.ntmps147
  go_wp2
  go_ret
  exact ⟨by kernel_rfl, rfl⟩
theorem len_63 : LenIs 63 := fun w => by
  go_enter Tryz.func147, Tryz.ntmps147
  go_wp2
  go_ret
  exact ⟨by kernel_rfl, rfl⟩
theorem len64_any (n : Nat) (h1 : 1 ≤ n) (hn : n ≤ 63) : LenIs n := by
  by_cases h1_63 : n ≤ 32
  · by_cases h1_32 : n ≤ 16
    · by_cases h1_16 : n ≤ 8
      · by_cases h1_8 : n ≤ 4
        · by_cases h1_4 : n ≤ 2
          · by_cases h1_2 : n ≤ 1
            · obtain rfl : n = 1 := by omega
              exact len_1
            · obtain rfl : n = 2 := by omega
              exact len_2
          · by_cases h3_4 : n ≤ 3
            · obtain rfl : n = 3 := by omega
              exact len_3
            · obtain rfl : n = 4 := by omega
              exact len_4
        · by_cases h5_8 : n ≤ 6
          · by_cases h5_6 : n ≤ 5
            · obtain rfl : n = 5 := by omega
              exact len_5
            · obtain rfl : n = 6 := by omega
              exact len_6
          · by_cases h7_8 : n ≤ 7
            · obtain rfl : n = 7 := by omega
              exact len_7
            · obtain rfl : n = 8 := by omega
              exact len_8
      · by_cases h9_16 : n ≤ 12
        · by_cases h9_12 : n ≤ 10
          · by_cases h9_10 : n ≤ 9
            · obtain rfl : n = 9 := by omega
              exact len_9
            · obtain rfl : n = 10 := by omega
              exact len_10
          · by_cases h11_12 : n ≤ 11
            · obtain rfl : n = 11 := by omega
              exact len_11
            · obtain rfl : n = 12 := by omega
              exact len_12
        · by_cases h13_16 : n ≤ 14
          · by_cases h13_14 : n ≤ 13
            · obtain rfl : n = 13 := by omega
              exact len_13
            · obtain rfl : n = 14 := by omega
              exact len_14
          · by_cases h15_16 : n ≤ 15
            · obtain rfl : n = 15 := by omega
              exact len_15
            · obtain rfl : n = 16 := by omega
              exact len_16
    · by_cases h17_32 : n ≤ 24
      · by_cases h17_24 : n ≤ 20
        · by_cases h17_20 : n ≤ 18
          · by_cases h17_18 : n ≤ 17
            · obtain rfl : n = 17 := by omega
              exact len_17
            · obtain rfl : n = 18 := by omega
              exact len_18
          · by_cases h19_20 : n ≤ 19
            · obtain rfl : n = 19 := by omega
              exact len_19
            · obtain rfl : n = 20 := by omega
              exact len_20
        · by_cases h21_24 : n ≤ 22
          · by_cases h21_22 : n ≤ 21
            · obtain rfl : n = 21 := by omega
              exact len_21
            · obtain rfl : n = 22 := by omega
              exact len_22
          · by_cases h23_24 : n ≤ 23
            · obtain rfl : n = 23 := by omega
              exact len_23
            · obtain rfl : n = 24 := by omega
              exact len_24
      · by_cases h25_32 : n ≤ 28
        · by_cases h25_28 : n ≤ 26
          · by_cases h25_26 : n ≤ 25
            · obtain rfl : n = 25 := by omega
              exact len_25
            · obtain rfl : n = 26 := by omega
              exact len_26
          · by_cases h27_28 : n ≤ 27
            · obtain rfl : n = 27 := by omega
              exact len_27
            · obtain rfl : n = 28 := by omega
              exact len_28
        · by_cases h29_32 : n ≤ 30
          · by_cases h29_30 : n ≤ 29
            · obtain rfl : n = 29 := by omega
              exact len_29
            · obtain rfl : n = 30 := by omega
              exact len_30
          · by_cases h31_32 : n ≤ 31
            · obtain rfl : n = 31 := by omega
              exact len_31
            · obtain rfl : n = 32 := by omega
              exact len_32
  · by_cases h33_63 : n ≤ 48
    · by_cases h33_48 : n ≤ 40
      · by_cases h33_40 : n ≤ 36
        · by_cases h33_36 : n ≤ 34
          · by_cases h33_34 : n ≤ 33
            · obtain rfl : n = 33 := by omega
              exact len_33
            · obtain rfl : n = 34 := by omega
              exact len_34
          · by_cases h35_36 : n ≤ 35
            · obtain rfl : n = 35 := by omega
              exact len_35
            · obtain rfl : n = 36 := by omega
              exact len_36
        · by_cases h37_40 : n ≤ 38
          · by_cases h37_38 : n ≤ 37
            · obtain rfl : n = 37 := by omega
              exact len_37
            · obtain rfl : n = 38 := by omega
              exact len_38
          · by_cases h39_40 : n ≤ 39
            · obtain rfl : n = 39 := by omega
              exact len_39
            · obtain rfl : n = 40 := by omega
              exact len_40
      · by_cases h41_48 : n ≤ 44
        · by_cases h41_44 : n ≤ 42
          · by_cases h41_42 : n ≤ 41
            · obtain rfl : n = 41 := by omega
              exact len_41
            · obtain rfl : n = 42 := by omega
              exact len_42
          · by_cases h43_44 : n ≤ 43
            · obtain rfl : n = 43 := by omega
              exact len_43
            · obtain rfl : n = 44 := by omega
              exact len_44
        · by_cases h45_48 : n ≤ 46
          · by_cases h45_46 : n ≤ 45
            · obtain rfl : n = 45 := by omega
              exact len_45
            · obtain rfl : n = 46 := by omega
              exact len_46
          · by_cases h47_48 : n ≤ 47
            · obtain rfl : n = 47 := by omega
              exact len_47
            · obtain rfl : n = 48 := by omega
              exact len_48
    · by_cases h49_63 : n ≤ 56
      · by_cases h49_56 : n ≤ 52
        · by_cases h49_52 : n ≤ 50
          · by_cases h49_50 : n ≤ 49
            · obtain rfl : n = 49 := by omega
              exact len_49
            · obtain rfl : n = 50 := by omega
              exact len_50
          · by_cases h51_52 : n ≤ 51
            · obtain rfl : n = 51 := by omega
              exact len_51
            · obtain rfl : n = 52 := by omega
              exact len_52
        · by_cases h53_56 : n ≤ 54
          · by_cases h53_54 : n ≤ 53
            · obtain rfl : n = 53 := by omega
              exact len_53
            · obtain rfl : n = 54 := by omega
              exact len_54
          · by_cases h55_56 : n ≤ 55
            · obtain rfl : n = 55 := by omega
              exact len_55
            · obtain rfl : n = 56 := by omega
              exact len_56
      · by_cases h57_63 : n ≤ 60
        · by_cases h57_60 : n ≤ 58
          · by_cases h57_58 : n ≤ 57
            · obtain rfl : n = 57 := by omega
              exact len_57
            · obtain rfl : n = 58 := by omega
              exact len_58
          · by_cases h59_60 : n ≤ 59
            · obtain rfl : n = 59 := by omega
              exact len_59
            · obtain rfl : n = 60 := by omega
              exact len_60
        · by_cases h61_63 : n ≤ 62
          · by_cases h61_62 : n ≤ 61
            · obtain rfl : n = 61 := by omega
              exact len_61
            · obtain rfl : n = 62 := by omega
              exact len_62
          · obtain rfl : n = 63 := by omega
            exact len_63
end Go.Proofs.YtogmdaopfnmobaaGreat

