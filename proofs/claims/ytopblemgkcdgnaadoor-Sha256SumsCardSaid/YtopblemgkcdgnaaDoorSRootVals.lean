/- The roots' first bits are the constants. -/
import Derived.Test.YtopblemgkcdgnaaDoorSRootMath
import Derived.Test.YtopblemgkcdgnaaDoorSMath
namespace Go.Proofs.YtopblemgkcdgnaaDoor

set_option maxRecDepth 100000
theorem sieve64 : sieveL 310 = [2, 3, 5, 7, 11, 13, 17, 19, 23, 29, 31, 37, 41, 43, 47, 53, 59, 61, 67, 71, 73, 79, 83, 89, 97, 101, 103, 107, 109, 113, 127, 131, 137, 139, 149, 151, 157, 163, 167, 173, 179, 181, 191, 193, 197, 199, 211, 223, 227, 229, 233, 239, 241, 251, 257, 263, 269, 271, 277, 281, 283, 293, 307, 311] := by decide +kernel
theorem sieve63 : (sieveL 309).length = 63 := by decide +kernel
theorem sieve8 : sieveL 18 = [2, 3, 5, 7, 11, 13, 17, 19] := by decide +kernel
theorem sieve7 : (sieveL 17).length = 7 := by decide +kernel
theorem squares : [2, 3, 5, 7, 11, 13, 17, 19].map (fun p => rootL p 2) = [h0.a, h0.b, h0.c, h0.d, h0.e, h0.f, h0.g, h0.h] := by decide +kernel
theorem cube2 : rootL 2 3 = 1116352408 := by decide +kernel
theorem cube3 : rootL 3 3 = 1899447441 := by decide +kernel
theorem cube5 : rootL 5 3 = 3049323471 := by decide +kernel
theorem cube7 : rootL 7 3 = 3921009573 := by decide +kernel
theorem cube11 : rootL 11 3 = 961987163 := by decide +kernel
theorem cube13 : rootL 13 3 = 1508970993 := by decide +kernel
theorem cube17 : rootL 17 3 = 2453635748 := by decide +kernel
theorem cube19 : rootL 19 3 = 2870763221 := by decide +kernel
theorem cube23 : rootL 23 3 = 3624381080 := by decide +kernel
theorem cube29 : rootL 29 3 = 310598401 := by decide +kernel
theorem cube31 : rootL 31 3 = 607225278 := by decide +kernel
theorem cube37 : rootL 37 3 = 1426881987 := by decide +kernel
theorem cube41 : rootL 41 3 = 1925078388 := by decide +kernel
theorem cube43 : rootL 43 3 = 2162078206 := by decide +kernel
theorem cube47 : rootL 47 3 = 2614888103 := by decide +kernel
theorem cube53 : rootL 53 3 = 3248222580 := by decide +kernel
theorem cube59 : rootL 59 3 = 3835390401 := by decide +kernel
theorem cube61 : rootL 61 3 = 4022224774 := by decide +kernel
theorem cube67 : rootL 67 3 = 264347078 := by decide +kernel
theorem cube71 : rootL 71 3 = 604807628 := by decide +kernel
theorem cube73 : rootL 73 3 = 770255983 := by decide +kernel
theorem cube79 : rootL 79 3 = 1249150122 := by decide +kernel
theorem cube83 : rootL 83 3 = 1555081692 := by decide +kernel
theorem cube89 : rootL 89 3 = 1996064986 := by decide +kernel
theorem cube97 : rootL 97 3 = 2554220882 := by decide +kernel
theorem cube101 : rootL 101 3 = 2821834349 := by decide +kernel
theorem cube103 : rootL 103 3 = 2952996808 := by decide +kernel
theorem cube107 : rootL 107 3 = 3210313671 := by decide +kernel
theorem cube109 : rootL 109 3 = 3336571891 := by decide +kernel
theorem cube113 : rootL 113 3 = 3584528711 := by decide +kernel
theorem cube127 : rootL 127 3 = 113926993 := by decide +kernel
theorem cube131 : rootL 131 3 = 338241895 := by decide +kernel
theorem cube137 : rootL 137 3 = 666307205 := by decide +kernel
theorem cube139 : rootL 139 3 = 773529912 := by decide +kernel
theorem cube149 : rootL 149 3 = 1294757372 := by decide +kernel
theorem cube151 : rootL 151 3 = 1396182291 := by decide +kernel
theorem cube157 : rootL 157 3 = 1695183700 := by decide +kernel
theorem cube163 : rootL 163 3 = 1986661051 := by decide +kernel
theorem cube167 : rootL 167 3 = 2177026350 := by decide +kernel
theorem cube173 : rootL 173 3 = 2456956037 := by decide +kernel
theorem cube179 : rootL 179 3 = 2730485921 := by decide +kernel
theorem cube181 : rootL 181 3 = 2820302411 := by decide +kernel
theorem cube191 : rootL 191 3 = 3259730800 := by decide +kernel
theorem cube193 : rootL 193 3 = 3345764771 := by decide +kernel
theorem cube197 : rootL 197 3 = 3516065817 := by decide +kernel
theorem cube199 : rootL 199 3 = 3600352804 := by decide +kernel
theorem cube211 : rootL 211 3 = 4094571909 := by decide +kernel
theorem cube223 : rootL 223 3 = 275423344 := by decide +kernel
theorem cube227 : rootL 227 3 = 430227734 := by decide +kernel
theorem cube229 : rootL 229 3 = 506948616 := by decide +kernel
theorem cube233 : rootL 233 3 = 659060556 := by decide +kernel
theorem cube239 : rootL 239 3 = 883997877 := by decide +kernel
theorem cube241 : rootL 241 3 = 958139571 := by decide +kernel
theorem cube251 : rootL 251 3 = 1322822218 := by decide +kernel
theorem cube257 : rootL 257 3 = 1537002063 := by decide +kernel
theorem cube263 : rootL 263 3 = 1747873779 := by decide +kernel
theorem cube269 : rootL 269 3 = 1955562222 := by decide +kernel
theorem cube271 : rootL 271 3 = 2024104815 := by decide +kernel
theorem cube277 : rootL 277 3 = 2227730452 := by decide +kernel
theorem cube281 : rootL 281 3 = 2361852424 := by decide +kernel
theorem cube283 : rootL 283 3 = 2428436474 := by decide +kernel
theorem cube293 : rootL 293 3 = 2756734187 := by decide +kernel
theorem cube307 : rootL 307 3 = 3204031479 := by decide +kernel
theorem cube311 : rootL 311 3 = 3329325298 := by decide +kernel
theorem cubes : (sieveL 310).map (fun p => rootL p 3) = ks := by
  rw [sieve64]
  simp only [List.map_cons, List.map_nil, cube2, cube3, cube5, cube7, cube11, cube13, cube17, cube19, cube23, cube29, cube31, cube37, cube41, cube43, cube47, cube53, cube59, cube61, cube67, cube71, cube73, cube79, cube83, cube89, cube97, cube101, cube103, cube107, cube109, cube113, cube127, cube131, cube137, cube139, cube149, cube151, cube157, cube163, cube167, cube173, cube179, cube181, cube191, cube193, cube197, cube199, cube211, cube223, cube227, cube229, cube233, cube239, cube241, cube251, cube257, cube263, cube269, cube271, cube277, cube281, cube283, cube293, cube307, cube311]
  rfl
end Go.Proofs.YtopblemgkcdgnaaDoor
