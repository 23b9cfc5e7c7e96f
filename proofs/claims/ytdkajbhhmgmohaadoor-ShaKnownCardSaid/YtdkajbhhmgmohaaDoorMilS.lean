/-
  The digest of a million bytes a.
-/
import Derived.Test.YtdkajbhhmgmohaaDoorStSum
import Derived.Test.YtdkajbhhmgmohaaDoorName
import Derived.Test.YtdkajbhhmgmohaaDoorMilA
import Derived.Test.YtdkajbhhmgmohaaDoorMilB
import Derived.Test.YtdkajbhhmgmohaaDoorMilC
import Derived.Test.YtdkajbhhmgmohaaDoorMilD
namespace Go.Proofs.YtdkajbhhmgmohaaDoor
open Sha
theorem milAll0 : itB milL 1000 (stN 1779033703 3144134277 1013904242 2773480762 1359893119 2600822924 528734635 1541459225) = stN 592955532 2302009565 1748763303 620342633 184731725 2631534163 3459837949 3784806294 := mil0
theorem milAll1 : itB milL 2000 (stN 1779033703 3144134277 1013904242 2773480762 1359893119 2600822924 528734635 1541459225) = stN 2432425355 3561878610 792915513 120060592 1730627794 3100338481 1484380738 2413567509 := by
  rw [show 2000 = 1000 + 1000 from rfl, itB_add, milAll0, mil1]
theorem milAll2 : itB milL 3000 (stN 1779033703 3144134277 1013904242 2773480762 1359893119 2600822924 528734635 1541459225) = stN 3693792429 3228489383 1920063468 1159363938 1995865486 3899395093 1070489690 3818696068 := by
  rw [show 3000 = 2000 + 1000 from rfl, itB_add, milAll1, mil2]
theorem milAll3 : itB milL 4000 (stN 1779033703 3144134277 1013904242 2773480762 1359893119 2600822924 528734635 1541459225) = stN 2905972929 1349376393 1639850357 1032224573 4087654825 844508927 142727850 1826949263 := by
  rw [show 4000 = 3000 + 1000 from rfl, itB_add, milAll2, mil3]
theorem milAll4 : itB milL 5000 (stN 1779033703 3144134277 1013904242 2773480762 1359893119 2600822924 528734635 1541459225) = stN 4101075154 129573525 758111687 2809097055 2946173745 4125254953 3590949913 2694474649 := by
  rw [show 5000 = 4000 + 1000 from rfl, itB_add, milAll3, mil4]
theorem milAll5 : itB milL 6000 (stN 1779033703 3144134277 1013904242 2773480762 1359893119 2600822924 528734635 1541459225) = stN 4254606125 2806188846 3777365106 2684039259 2563108456 3262562783 1651969283 215006605 := by
  rw [show 6000 = 5000 + 1000 from rfl, itB_add, milAll4, mil5]
theorem milAll6 : itB milL 7000 (stN 1779033703 3144134277 1013904242 2773480762 1359893119 2600822924 528734635 1541459225) = stN 2886889284 2599971770 2205939323 3855558067 1633335210 3181097314 2286572733 563518467 := by
  rw [show 7000 = 6000 + 1000 from rfl, itB_add, milAll5, mil6]
theorem milAll7 : itB milL 8000 (stN 1779033703 3144134277 1013904242 2773480762 1359893119 2600822924 528734635 1541459225) = stN 365602951 4150781828 1268961766 2892834699 688178498 3951390503 324146750 394001364 := by
  rw [show 8000 = 7000 + 1000 from rfl, itB_add, milAll6, mil7]
theorem milAll8 : itB milL 9000 (stN 1779033703 3144134277 1013904242 2773480762 1359893119 2600822924 528734635 1541459225) = stN 3818293026 673805928 2454018847 276474797 3429612345 1781107536 3881786715 3255356261 := by
  rw [show 9000 = 8000 + 1000 from rfl, itB_add, milAll7, mil8]
theorem milAll9 : itB milL 10000 (stN 1779033703 3144134277 1013904242 2773480762 1359893119 2600822924 528734635 1541459225) = stN 1482359619 3053920332 2218581276 956914467 3284847132 1532092920 4107310820 2931061524 := by
  rw [show 10000 = 9000 + 1000 from rfl, itB_add, milAll8, mil9]
theorem milAll10 : itB milL 11000 (stN 1779033703 3144134277 1013904242 2773480762 1359893119 2600822924 528734635 1541459225) = stN 4096498801 2730981357 368208555 2288836688 2318021256 4247003884 1096726684 2260101034 := by
  rw [show 11000 = 10000 + 1000 from rfl, itB_add, milAll9, mil10]
theorem milAll11 : itB milL 12000 (stN 1779033703 3144134277 1013904242 2773480762 1359893119 2600822924 528734635 1541459225) = stN 1452105697 332993037 4062823241 378816347 216171789 2684076044 1651074104 495955238 := by
  rw [show 12000 = 11000 + 1000 from rfl, itB_add, milAll10, mil11]
theorem milAll12 : itB milL 13000 (stN 1779033703 3144134277 1013904242 2773480762 1359893119 2600822924 528734635 1541459225) = stN 1928082961 2860961623 1904690592 997958037 4255195384 1882369429 3945749460 2719203343 := by
  rw [show 13000 = 12000 + 1000 from rfl, itB_add, milAll11, mil12]
theorem milAll13 : itB milL 14000 (stN 1779033703 3144134277 1013904242 2773480762 1359893119 2600822924 528734635 1541459225) = stN 2321800416 2572043633 3343100340 3876063791 4094606593 839583183 1226381485 762067512 := by
  rw [show 14000 = 13000 + 1000 from rfl, itB_add, milAll12, mil13]
theorem milAll14 : itB milL 15000 (stN 1779033703 3144134277 1013904242 2773480762 1359893119 2600822924 528734635 1541459225) = stN 3286924927 1855780753 2608627564 176370035 705989294 1480277143 2994088020 951416902 := by
  rw [show 15000 = 14000 + 1000 from rfl, itB_add, milAll13, mil14]
theorem milAll15 : itB milL 15625 (stN 1779033703 3144134277 1013904242 2773480762 1359893119 2600822924 528734635 1541459225) = stN 2061136107 1745259042 791610055 2140370626 1884297759 3529239238 671294972 693152569 := by
  rw [show 15625 = 15000 + 625 from rfl, itB_add, milAll14, mil15]
theorem h0_is : h0 = stN 1779033703 3144134277 1013904242 2773480762 1359893119 2600822924 528734635 1541459225 := rfl
theorem comp_is (s : St) : compress s (List.replicate 64 97) = s.plus (milL.foldl rndP s) := by
  unfold compress
  rw [rnds_fold s 64 kl (sched (List.replicate 64 97)) (by decide) (by unfold sched; rw [schedL_length]; exact Nat.le_refl _)]
  congr 2
theorem blocks_rep (s : St) (m : Nat) (B : List UInt8) : ∀ n, 64 * n ≤ m → blocksTo s (List.replicate m 97 ++ B) n = itB milL n s
  | 0, _ => rfl
  | n + 1, h => by
    conv => lhs; unfold blocksTo
    rw [blocks_rep s m B n (by omega), itB_add milL 1 n s]
    have e : ((List.replicate m (97 : UInt8) ++ B).drop (64 * n)).take 64 = List.replicate 64 97 := by
      rw [List.drop_append, List.take_append, List.drop_replicate, List.take_replicate, List.length_replicate, show min 64 (m - 64 * n) = 64 by omega]
      rw [show 64 - (m - 64 * n) = 0 by omega, List.take_zero, List.append_nil]
    rw [e, comp_is]
    rfl
def nameM : List UInt8 := [115, 104, 97, 50, 53, 54, 58, 99, 100, 99, 55, 54, 101, 53, 99, 57, 57, 49, 52, 102, 98, 57, 50, 56, 49, 97, 49, 99, 55, 101, 50, 56, 52, 100, 55, 51, 101, 54, 55, 102, 49, 56, 48, 57, 97, 52, 56, 97, 52, 57, 55, 50, 48, 48, 101, 48, 52, 54, 100, 51, 57, 99, 99, 99, 55, 49, 49, 50, 99, 100, 48]
def nameT : List UInt8 := [115, 104, 97, 50, 53, 54, 58, 50, 52, 56, 100, 54, 97, 54, 49, 100, 50, 48, 54, 51, 56, 98, 56, 101, 53, 99, 48, 50, 54, 57, 51, 48, 99, 51, 101, 54, 48, 51, 57, 97, 51, 51, 99, 101, 52, 53, 57, 54, 52, 102, 102, 50, 49, 54, 55, 102, 54, 101, 99, 101, 100, 100, 52, 49, 57, 100, 98, 48, 54, 99, 49]
def twoL : List UInt8 := [97, 98, 99, 100, 98, 99, 100, 101, 99, 100, 101, 102, 100, 101, 102, 103, 101, 102, 103, 104, 102, 103, 104, 105, 103, 104, 105, 106, 104, 105, 106, 107, 105, 106, 107, 108, 106, 107, 108, 109, 107, 108, 109, 110, 108, 109, 110, 111, 109, 110, 111, 112, 110, 111, 112, 113]
theorem endM_len : (endTo 1000000 8).length = 64 := by rw [endTo_length]; rfl
set_option maxRecDepth 100000 in
theorem lastM : nameL (dig (compress (stN 2061136107 1745259042 791610055 2140370626 1884297759 3529239238 671294972 693152569) (endTo 1000000 8))) = nameM := by decide +kernel
set_option maxRecDepth 100000 in
theorem nameT_eq : nameL (shaL twoL) = nameT := by decide +kernel
theorem sha_rep (m k : Nat) (S : St) (hm : m = 64 * k) (hS : itB milL k h0 = S) (he : (endTo m 8).length = 64) : shaL (List.replicate m 97) = dig (compress S (endTo m 8)) := by
  unfold shaL pad
  rw [List.length_append, List.length_replicate, he, show (m + 64) / 64 = k + 1 by omega]
  conv => lhs; unfold blocksTo
  rw [blocks_rep h0 m _ k (by omega), hS, List.drop_append, List.drop_replicate, List.length_replicate, show m - 64 * k = 0 by omega, show 64 * k - m = 0 by omega, List.replicate_zero, List.nil_append, List.drop_zero,
    List.take_of_length_le (Nat.le_of_eq he)]
theorem shaM : shaL (List.replicate 1000000 97) = dig (compress (stN 2061136107 1745259042 791610055 2140370626 1884297759 3529239238 671294972 693152569) (endTo 1000000 8)) := sha_rep 1000000 15625 _ (by decide) (by rw [h0_is]; exact milAll15) endM_len
theorem nameM_eq : nameL (shaL (List.replicate 1000000 97)) = nameM := by rw [shaM]; exact lastM
end Go.Proofs.YtdkajbhhmgmohaaDoor
