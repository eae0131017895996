/- The primes by a sieve; the roots' first bits are the constants. -/
import Derived.Test.YtmebiidgeaalpaaDoorTDigits
import Derived.Test.YtmebiidgeaalpaaDoorTMath
namespace Go.Proofs.YtmebiidgeaalpaaDoor.T

def sieveL : Nat → List Nat
  | 0 => []
  | t + 1 => if (sieveL t).all (fun p => decide ((2 + t) % p ≠ 0)) = true then sieveL t ++ [2 + t] else sieveL t
theorem sieve_in (t : Nat) : ∀ p ∈ sieveL t, 2 ≤ p ∧ p < 2 + t := by
  induction t with
  | zero => intro p h; cases h
  | succ t ih =>
    intro p h
    rw [sieveL] at h
    split at h
    · rw [List.mem_append, List.mem_singleton] at h
      rcases h with h | rfl
      · have := ih p h; omega
      · omega
    · have := ih p h; omega
theorem sieve_grows (t : Nat) : (sieveL t).length ≤ (sieveL (t + 1)).length ∧ (sieveL (t + 1)).length ≤ (sieveL t).length + 1 := by
  rw [sieveL]
  split
  · simp
  · omega
theorem sieve_mono (t k : Nat) : (sieveL t).length ≤ (sieveL (t + k)).length := by
  induction k with
  | zero => exact Nat.le_refl _
  | succ k ih => exact Nat.le_trans ih (sieve_grows (t + k)).1
theorem sieve_length (t : Nat) : (sieveL t).length ≤ t := by
  induction t with
  | zero => exact Nat.le_refl _
  | succ t ih => have := (sieve_grows t).2; omega
theorem all_next (o : List Nat) (f : Nat → Bool) (k : Nat) (h : k < o.length) : (o.take (k + 1)).all f = ((o.take k).all f && f (o.getD k 0)) := by
  rw [List.take_add_one, List.getElem?_eq_getElem h, List.getD_eq_getElem?_getD, List.getElem?_eq_getElem h, List.all_append, Option.toList_some, List.all_cons, List.all_nil, Bool.and_true, Option.getD_some]
theorem getD_mem (o : List Nat) (k : Nat) (h : k < o.length) : o.getD k 0 ∈ o := by
  rw [List.getD_eq_getElem?_getD, List.getElem?_eq_getElem h]
  exact List.getElem_mem h

set_option maxRecDepth 100000
theorem sieve80 : sieveL 408 = [2, 3, 5, 7, 11, 13, 17, 19, 23, 29, 31, 37, 41, 43, 47, 53, 59, 61, 67, 71, 73, 79, 83, 89, 97, 101, 103, 107, 109, 113, 127, 131, 137, 139, 149, 151, 157, 163, 167, 173, 179, 181, 191, 193, 197, 199, 211, 223, 227, 229, 233, 239, 241, 251, 257, 263, 269, 271, 277, 281, 283, 293, 307, 311, 313, 317, 331, 337, 347, 349, 353, 359, 367, 373, 379, 383, 389, 397, 401, 409] := by decide +kernel
theorem sieve79 : (sieveL 407).length = 79 := by decide +kernel
theorem sieve8 : sieveL 18 = [2, 3, 5, 7, 11, 13, 17, 19] := by decide +kernel
theorem sieve7 : (sieveL 17).length = 7 := by decide +kernel
theorem root_of (p d R x : Nat) (h : (decide (p < 65536) && decide (1 ≤ d) && decide (R ^ d ≤ 65536 ^ (4 * d) * p) && decide (65536 ^ (4 * d) * p < (R + 1) ^ d) && decide (R < 590295810358705651712) && decide (R % 18446744073709551616 = x)) = true) : rootL p d = x := by
  simp only [Bool.and_eq_true, decide_eq_true_eq] at h
  obtain ⟨⟨⟨⟨⟨h1, h2⟩, h3⟩, h4⟩, h5⟩, h6⟩ := h
  rw [root_val p d R h1 h2 h3 h4 h5, h6]
theorem square2 : rootL 2 2 = 7640891576956012808 := root_of 2 2 26087635650665564424 7640891576956012808 (by decide +kernel)
theorem square3 : rootL 3 2 = 13503953896175478587 := root_of 3 2 31950697969885030203 13503953896175478587 (by decide +kernel)
theorem square5 : rootL 5 2 = 4354685564936845355 := root_of 5 2 41248173712355948587 4354685564936845355 (by decide +kernel)
theorem square7 : rootL 7 2 = 11912009170470909681 := root_of 7 2 48805497317890012913 11912009170470909681 (by decide +kernel)
theorem square11 : rootL 11 2 = 5840696475078001361 := root_of 11 2 61180928696206656209 5840696475078001361 (by decide +kernel)
theorem square13 : rootL 13 2 = 11170449401992604703 := root_of 13 2 66510681623121259551 11170449401992604703 (by decide +kernel)
theorem square17 : rootL 17 2 = 2270897969802886507 := root_of 17 2 76057874264641092971 2270897969802886507 (by decide +kernel)
theorem square19 : rootL 19 2 = 6620516959819538809 := root_of 19 2 80407493254657745273 6620516959819538809 (by decide +kernel)
theorem cube2 : rootL 2 3 = 4794697086780616226 := root_of 2 3 23241441160490167842 4794697086780616226 (by decide +kernel)
theorem cube3 : rootL 3 3 = 8158064640168781261 := root_of 3 3 26604808713878332877 8158064640168781261 (by decide +kernel)
theorem cube5 : rootL 5 3 = 13096744586834688815 := root_of 5 3 31543488660544240431 13096744586834688815 (by decide +kernel)
theorem cube7 : rootL 7 3 = 16840607885511220156 := root_of 7 3 35287351959220771772 16840607885511220156 (by decide +kernel)
theorem cube11 : rootL 11 3 = 4131703408338449720 := root_of 11 3 41025191555757552952 4131703408338449720 (by decide +kernel)
theorem cube13 : rootL 13 3 = 6480981068601479193 := root_of 13 3 43374469216020582425 6480981068601479193 (by decide +kernel)
theorem cube17 : rootL 17 3 = 10538285296894168987 := root_of 17 3 47431773444313272219 10538285296894168987 (by decide +kernel)
theorem cube19 : rootL 19 3 = 12329834152419229976 := root_of 19 3 49223322299838333208 12329834152419229976 (by decide +kernel)
theorem cube23 : rootL 23 3 = 15566598209576043074 := root_of 23 3 52460086356995146306 15566598209576043074 (by decide +kernel)
theorem cube29 : rootL 29 3 = 1334009975649890238 := root_of 29 3 56674242196778545086 1334009975649890238 (by decide +kernel)
theorem cube31 : rootL 31 3 = 2608012711638119052 := root_of 31 3 57948244932766773900 2608012711638119052 (by decide +kernel)
theorem cube37 : rootL 37 3 = 6128411473006802146 := root_of 37 3 61468643694135456994 6128411473006802146 (by decide +kernel)
theorem cube41 : rootL 41 3 = 8268148722764581231 := root_of 41 3 63608380943893236079 8268148722764581231 (by decide +kernel)
theorem cube43 : rootL 43 3 = 9286055187155687089 := root_of 43 3 64626287408284341937 9286055187155687089 (by decide +kernel)
theorem cube47 : rootL 47 3 = 11230858885718282805 := root_of 47 3 66571091106846937653 11230858885718282805 (by decide +kernel)
theorem cube53 : rootL 53 3 = 13951009754708518548 := root_of 53 3 69291241975837173396 13951009754708518548 (by decide +kernel)
theorem cube59 : rootL 59 3 = 16472876342353939154 := root_of 59 3 71813108563482594002 16472876342353939154 (by decide +kernel)
theorem cube61 : rootL 61 3 = 17275323862435702243 := root_of 61 3 72615556083564357091 17275323862435702243 (by decide +kernel)
theorem cube67 : rootL 67 3 = 1135362057144423861 := root_of 67 3 74922338351982630325 1135362057144423861 (by decide +kernel)
theorem cube71 : rootL 71 3 = 2597628984639134821 := root_of 71 3 76384605279477341285 2597628984639134821 (by decide +kernel)
theorem cube73 : rootL 73 3 = 3308224258029322869 := root_of 73 3 77095200552867529333 3308224258029322869 (by decide +kernel)
theorem cube79 : rootL 79 3 = 5365058923640841347 := root_of 79 3 79152035218479047811 5365058923640841347 (by decide +kernel)
theorem cube83 : rootL 83 3 = 6679025012923562964 := root_of 83 3 80466001307761769428 6679025012923562964 (by decide +kernel)
theorem cube89 : rootL 89 3 = 8573033837759648693 := root_of 89 3 82360010132597855157 8573033837759648693 (by decide +kernel)
theorem cube97 : rootL 97 3 = 10970295158949994411 := root_of 97 3 84757271453788200875 10970295158949994411 (by decide +kernel)
theorem cube101 : rootL 101 3 = 12119686244451234320 := root_of 101 3 85906662539289440784 12119686244451234320 (by decide +kernel)
theorem cube103 : rootL 103 3 = 12683024718118986047 := root_of 103 3 86470001012957192511 12683024718118986047 (by decide +kernel)
theorem cube107 : rootL 107 3 = 13788192230050041572 := root_of 107 3 87575168524888248036 13788192230050041572 (by decide +kernel)
theorem cube109 : rootL 109 3 = 14330467153632333762 := root_of 109 3 88117443448470540226 14330467153632333762 (by decide +kernel)
theorem cube113 : rootL 113 3 = 15395433587784984357 := root_of 113 3 89182409882623190821 15395433587784984357 (by decide +kernel)
theorem cube127 : rootL 127 3 = 489312712824947311 := root_of 127 3 92723033081372705391 489312712824947311 (by decide +kernel)
theorem cube131 : rootL 131 3 = 1452737877330783856 := root_of 131 3 93686458245878541936 1452737877330783856 (by decide +kernel)
theorem cube137 : rootL 137 3 = 2861767655752347644 := root_of 137 3 95095488024300105724 2861767655752347644 (by decide +kernel)
theorem cube139 : rootL 139 3 = 3322285676063803686 := root_of 139 3 95556006044611561766 3322285676063803686 (by decide +kernel)
theorem cube149 : rootL 149 3 = 5560940570517711597 := root_of 149 3 97794660939065469677 5560940570517711597 (by decide +kernel)
theorem cube151 : rootL 151 3 = 5996557281743188959 := root_of 151 3 98230277650290947039 5996557281743188959 (by decide +kernel)
theorem cube157 : rootL 157 3 = 7280758554555802590 := root_of 157 3 99514478923103560670 7280758554555802590 (by decide +kernel)
theorem cube163 : rootL 163 3 = 8532644243296465576 := root_of 163 3 100766364611844223656 8532644243296465576 (by decide +kernel)
theorem cube167 : rootL 167 3 = 9350256976987008742 := root_of 167 3 101583977345534766822 9350256976987008742 (by decide +kernel)
theorem cube173 : rootL 173 3 = 10552545826968843579 := root_of 173 3 102786266195516601659 10552545826968843579 (by decide +kernel)
theorem cube179 : rootL 179 3 = 11727347734174303076 := root_of 179 3 103961068102722061156 11727347734174303076 (by decide +kernel)
theorem cube181 : rootL 181 3 = 12113106623233404929 := root_of 181 3 104346826991781163009 12113106623233404929 (by decide +kernel)
theorem cube191 : rootL 191 3 = 14000437183269869457 := root_of 191 3 106234157551817627537 14000437183269869457 (by decide +kernel)
theorem cube193 : rootL 193 3 = 14369950271660146224 := root_of 193 3 106603670640207904304 14369950271660146224 (by decide +kernel)
theorem cube197 : rootL 197 3 = 15101387698204529176 := root_of 197 3 107335108066752287256 15101387698204529176 (by decide +kernel)
theorem cube199 : rootL 199 3 = 15463397548674623760 := root_of 199 3 107697117917222381840 15463397548674623760 (by decide +kernel)
theorem cube211 : rootL 211 3 = 17586052441742319658 := root_of 211 3 109819772810290077738 17586052441742319658 (by decide +kernel)
theorem cube223 : rootL 223 3 = 1182934255886127544 := root_of 223 3 111863398698143437240 1182934255886127544 (by decide +kernel)
theorem cube227 : rootL 227 3 = 1847814050463011016 := root_of 227 3 112528278492720320712 1847814050463011016 (by decide +kernel)
theorem cube229 : rootL 229 3 = 2177327727835720531 := root_of 229 3 112857792170093030227 2177327727835720531 (by decide +kernel)
theorem cube233 : rootL 233 3 = 2830643537854262169 := root_of 233 3 113511107980111571865 2830643537854262169 (by decide +kernel)
theorem cube239 : rootL 239 3 = 3796741975233480872 := root_of 239 3 114477206417490790568 3796741975233480872 (by decide +kernel)
theorem cube241 : rootL 241 3 = 4115178125766777443 := root_of 241 3 114795642568024087139 4115178125766777443 (by decide +kernel)
theorem cube251 : rootL 251 3 = 5681478168544905931 := root_of 251 3 116361942610802215627 5681478168544905931 (by decide +kernel)
theorem cube257 : rootL 257 3 = 6601373596472566643 := root_of 257 3 117281838038729876339 6601373596472566643 (by decide +kernel)
theorem cube263 : rootL 263 3 = 7507060721942968483 := root_of 263 3 118187525164200278179 7507060721942968483 (by decide +kernel)
theorem cube269 : rootL 269 3 = 8399075790359081724 := root_of 269 3 119079540232616391420 8399075790359081724 (by decide +kernel)
theorem cube271 : rootL 271 3 = 8693463985226723168 := root_of 271 3 119373928427484032864 8693463985226723168 (by decide +kernel)
theorem cube277 : rootL 277 3 = 9568029438360202098 := root_of 277 3 120248493880617511794 9568029438360202098 (by decide +kernel)
theorem cube281 : rootL 281 3 = 10144078919501101548 := root_of 281 3 120824543361758411244 10144078919501101548 (by decide +kernel)
theorem cube283 : rootL 283 3 = 10430055236837252648 := root_of 283 3 121110519679094562344 10430055236837252648 (by decide +kernel)
theorem cube293 : rootL 293 3 = 11840083180663258601 := root_of 293 3 122520547622920568297 11840083180663258601 (by decide +kernel)
theorem cube307 : rootL 307 3 = 13761210420658862357 := root_of 307 3 124441674862916172053 13761210420658862357 (by decide +kernel)
theorem cube311 : rootL 311 3 = 14299343276471374635 := root_of 311 3 124979807718728684331 14299343276471374635 (by decide +kernel)
theorem cube313 : rootL 313 3 = 14566680578165727644 := root_of 313 3 125247145020423037340 14566680578165727644 (by decide +kernel)
theorem cube317 : rootL 317 3 = 15097957966210449927 := root_of 317 3 125778422408467759623 15097957966210449927 (by decide +kernel)
theorem cube331 : rootL 331 3 = 16922976911328602910 := root_of 331 3 127603441353585912606 16922976911328602910 (by decide +kernel)
theorem cube337 : rootL 337 3 = 17689382322260857208 := root_of 337 3 128369846764518166904 17689382322260857208 (by decide +kernel)
theorem cube347 : rootL 347 3 = 500013540394364858 := root_of 347 3 129627222056361226170 500013540394364858 (by decide +kernel)
theorem cube349 : rootL 349 3 = 748580250866718886 := root_of 349 3 129875788766833580198 748580250866718886 (by decide +kernel)
theorem cube353 : rootL 353 3 = 1242879168328830382 := root_of 353 3 130370087684295691694 1242879168328830382 (by decide +kernel)
theorem cube359 : rootL 359 3 = 1977374033974150939 := root_of 359 3 131104582549941012251 1977374033974150939 (by decide +kernel)
theorem cube367 : rootL 367 3 = 2944078676154940804 := root_of 367 3 132071287192121802116 2944078676154940804 (by decide +kernel)
theorem cube373 : rootL 373 3 = 3659926193048069267 := root_of 373 3 132787134709014930579 3659926193048069267 (by decide +kernel)
theorem cube379 : rootL 379 3 = 4368137639120453308 := root_of 379 3 133495346155087314620 4368137639120453308 (by decide +kernel)
theorem cube383 : rootL 383 3 = 4836135668995329356 := root_of 383 3 133963344184962190668 4836135668995329356 (by decide +kernel)
theorem cube389 : rootL 389 3 = 5532061633213252278 := root_of 389 3 134659270149180113590 5532061633213252278 (by decide +kernel)
theorem cube397 : rootL 397 3 = 6448918945643986474 := root_of 397 3 135576127461610847786 6448918945643986474 (by decide +kernel)
theorem cube401 : rootL 401 3 = 6902733635092675308 := root_of 401 3 136029942151059536620 6902733635092675308 (by decide +kernel)
theorem cube409 : rootL 409 3 = 7801388544844847127 := root_of 409 3 136928597060811708439 7801388544844847127 (by decide +kernel)
theorem squares : (sieveL 18).map (fun p => rootL p 2) = [h0.a, h0.b, h0.c, h0.d, h0.e, h0.f, h0.g, h0.h] := by
  rw [sieve8]
  simp only [List.map_cons, List.map_nil, square2, square3, square5, square7, square11, square13, square17, square19]
  rfl
theorem cubes : (sieveL 408).map (fun p => rootL p 3) = ks := by
  rw [sieve80]
  simp only [List.map_cons, List.map_nil, cube2, cube3, cube5, cube7, cube11, cube13, cube17, cube19, cube23, cube29, cube31, cube37, cube41, cube43, cube47, cube53, cube59, cube61, cube67, cube71, cube73, cube79, cube83, cube89, cube97, cube101, cube103, cube107, cube109, cube113, cube127, cube131, cube137, cube139, cube149, cube151, cube157, cube163, cube167, cube173, cube179, cube181, cube191, cube193, cube197, cube199, cube211, cube223, cube227, cube229, cube233, cube239, cube241, cube251, cube257, cube263, cube269, cube271, cube277, cube281, cube283, cube293, cube307, cube311, cube313, cube317, cube331, cube337, cube347, cube349, cube353, cube359, cube367, cube373, cube379, cube383, cube389, cube397, cube401, cube409]
  rfl
end Go.Proofs.YtmebiidgeaalpaaDoor.T
