/-
  The statements' own SHA-256 answers what the chapter says, for any bytes; nothing that was there turns. Conditions: the bytes lie where the slice says, fewer than 2^46.
-/
import Derived.Deep.DeepCutAuto
import Derived.Test.YtckkcpplanfmhaaGreatDoorMg08
namespace Go.Proofs.YtckkcpplanfmhaaGreatDoor.Sha
open Go Go.RowKit
theorem ow_u32 : (Tryz.prog.info? 23).map (fun i => (i.zero, i.size, i.bytes)) = some (some (.int .u32 0), 1, 4) := by kernel_rfl
/-- The message and j zeros behind it. -/
def grown (bs : List UInt8) (j : Nat) : List UInt8 := bs ++ [0x80] ++ List.replicate j 0
theorem grown_succ (bs : List UInt8) (j : Nat) : grown bs j ++ [0] = grown bs (j + 1) := by
  simp [grown, List.replicate_succ']
theorem grown_pad (bs : List UInt8) : grown bs (padLen bs.length - 1) = bs ++ pad bs.length := by simp [grown, pad]
def RzInv (bs : List UInt8) (B : Nat) (w : World) (v : Value) (wr : World) : Prop :=
  ∃ j : Nat, j ≤ padLen bs.length - 1 ∧ wr.ownsRow B 5 1 v (bs.length + 1 + j) ((grown bs j).map bV) ∧ Below w.heap.size w wr
def lenV : Value → Nat
  | .slice _ n _ => n
  | _ => 0
/-- k words of the schedule stand in a block of its own. -/
def RsInv (b : Nat → UInt8) (B : Nat) (w : World) (i : Value) (wr : World) : Prop :=
  ∃ k : Nat, k ≤ 64 ∧ i = .int .i64 k ∧ wr.heap[B]? = some (.cells (rowV b k).toArray 23 (0, 0)) ∧ Below B w wr
theorem rs_step {b : Nat → UInt8} {B k : Nat} {w wr : World} (hr : wr.heap[B]? = some (.cells (rowV b k).toArray 23 (0, 0))) (hb : Below B w wr) (hk : k < 64) (x : UInt32) (hx : nextW b k (row b k) = x) :
    (wr.setCell ⟨B, k, none⟩ (.int .u32 (wv x))).drew.heap[B]? = some (.cells (rowV b (k + 1)).toArray 23 (0, 0)) ∧ Below B w (wr.setCell ⟨B, k, none⟩ (.int .u32 (wv x))).drew := by
  subst hx
  refine ⟨?_, (hb.setCell (Nat.le_refl _) _).drew⟩
  rw [heap_drew, heap_setCell_same wr B k _ _ _ hr, ← rowV_set b k hk]
  rfl
theorem nextW_ref (b : Nat → UInt8) (t : Nat) (l : List UInt32) (h : 16 ≤ t) {x2 x7 x15 x16 : UInt32} (h2 : l.getD (t - 2) 0 = x2) (h7 : l.getD (t - 7) 0 = x7) (h15 : l.getD (t - 15) 0 = x15) (h16 : l.getD (t - 16) 0 = x16) :
    nextW b t l = x16 + (rotr x15 7 ^^^ rotr x15 18 ^^^ (x15 >>> UInt32.ofNat 3)) + x7 + (rotr x2 17 ^^^ rotr x2 19 ^^^ (x2 >>> UInt32.ofNat 10)) := by
  rw [nextW_high b t l h, h2, h7, h15, h16]
  show sS1 x2 + x7 + sS0 x15 + x16 = x16 + sS0 x15 + x7 + sS1 x2
  ac_rfl
/-- k bytes of the length stand. -/
def RzTwo (bs : List UInt8) (B : Nat) (w : World) (v i : Value) (wr : World) : Prop :=
  ∃ k : Nat, k ≤ 8 ∧ i = .int .i64 (7 - (k : Int)) ∧ wr.ownsRow B 5 1 v (bs.length + padLen bs.length + k) ((bs ++ pad bs.length ++ (len8 bs.length).take k).map bV) ∧ Below w.heap.size w wr
/-- t rounds stand in a row of eight words. -/
def RrInv (l : List UInt32) (s : St) (w : World) (v i : Value) (wr : World) : Prop :=
  ∃ t g cp : Nat, t ≤ 64 ∧ i = .int .i64 t ∧ v = .slice (some ⟨g, 0, none⟩) 8 cp ∧ 8 ≤ cp ∧ w.heap.size ≤ g ∧ (∀ j x, (rounds l s t).cells[j]? = some x → wr.cell? ⟨g, j, none⟩ = some x) ∧ Below w.heap.size w wr
/-- k of the eight words have been added to. -/
def addHL (s r : St) (k : Nat) : List Value := ((s.plus r).list.take k ++ s.list.drop k).map wV
theorem addHL_get (s r : St) (k : Nat) (h : k < 8) : (addHL s r k)[k]? = some (wV (s.list.getD k 0)) := by
  match k, h with
  | 0, _ => rfl
  | 1, _ => rfl
  | 2, _ => rfl
  | 3, _ => rfl
  | 4, _ => rfl
  | 5, _ => rfl
  | 6, _ => rfl
  | 7, _ => rfl
theorem addHL_set (s r : St) (k : Nat) (h : k < 8) : (addHL s r k).set k (wV (s.list.getD k 0 + r.list.getD k 0)) = addHL s r (k + 1) := by
  match k, h with
  | 0, _ => rfl
  | 1, _ => rfl
  | 2, _ => rfl
  | 3, _ => rfl
  | 4, _ => rfl
  | 5, _ => rfl
  | 6, _ => rfl
  | 7, _ => rfl
def AdInv (s r : St) (H : Nat) (w : World) (i : Value) (wr : World) : Prop :=
  ∃ k : Nat, k ≤ 8 ∧ i = .int .i64 k ∧ wr.heap[H]? = some (.cells (addHL s r k).toArray 23 (0, 0)) ∧ w.grownBy wr (some H)
theorem out_byte (s : St) (k : Nat) (h : k < 32) : s.bytes.getD k 0 = ((s.list.getD (k / 4) 0) >>> UInt32.ofNat (24 - 8 * (k % 4))).toUInt8 := by
  have z : ∀ x : UInt32, x.toUInt8 = (x >>> UInt32.ofNat 0).toUInt8 := fun x => by simp
  obtain ⟨q, e, hq, he, rfl⟩ : ∃ q e, q < 8 ∧ e < 4 ∧ k = 4 * q + e := ⟨k / 4, k % 4, by omega, by omega, by omega⟩
  rw [show (4 * q + e) / 4 = q by omega, show (4 * q + e) % 4 = e by omega]
  match q, hq, e, he with
  | 0, _, 0, _ => rfl
  | 0, _, 1, _ => rfl
  | 0, _, 2, _ => rfl
  | 0, _, 3, _ => exact z _
  | 1, _, 0, _ => rfl
  | 1, _, 1, _ => rfl
  | 1, _, 2, _ => rfl
  | 1, _, 3, _ => exact z _
  | 2, _, 0, _ => rfl
  | 2, _, 1, _ => rfl
  | 2, _, 2, _ => rfl
  | 2, _, 3, _ => exact z _
  | 3, _, 0, _ => rfl
  | 3, _, 1, _ => rfl
  | 3, _, 2, _ => rfl
  | 3, _, 3, _ => exact z _
  | 4, _, 0, _ => rfl
  | 4, _, 1, _ => rfl
  | 4, _, 2, _ => rfl
  | 4, _, 3, _ => exact z _
  | 5, _, 0, _ => rfl
  | 5, _, 1, _ => rfl
  | 5, _, 2, _ => rfl
  | 5, _, 3, _ => exact z _
  | 6, _, 0, _ => rfl
  | 6, _, 1, _ => rfl
  | 6, _, 2, _ => rfl
  | 6, _, 3, _ => exact z _
  | 7, _, 0, _ => rfl
  | 7, _, 1, _ => rfl
  | 7, _, 2, _ => rfl
  | 7, _, 3, _ => exact z _
/-- k bytes of the digest stand. -/
def otL (s : St) (k : Nat) : List Value := (s.bytes.take k).map bV ++ List.replicate (32 - k) (bV 0)
theorem otL_get (s : St) (k : Nat) (h : k < 32) : (otL s k).toArray[k]? = some (bV 0) := by
  unfold otL
  rw [List.getElem?_toArray, List.getElem?_append_right (by simp [bytes_length]; omega), List.getElem?_replicate, if_pos (by simp [bytes_length]; omega)]
theorem otL_set (s : St) (k : Nat) (h : k < 32) : (otL s k).set k (bV (s.bytes.getD k 0)) = otL s (k + 1) := by
  have hk : k < s.bytes.length := by rw [bytes_length]; exact h
  have hl : ((s.bytes.take k).map bV).length = k := by simp [bytes_length]; omega
  unfold otL
  rw [List.set_append_right _ _ (by omega), hl, Nat.sub_self, show 32 - k = (32 - (k + 1)) + 1 by omega, List.replicate_succ, List.set_cons_zero, List.take_succ_eq_append_getElem hk, List.map_append, List.append_assoc, show s.bytes.getD k 0 = s.bytes[k] by simp [List.getD, List.getElem?_eq_getElem hk]]
  rfl
def OtInv (s : St) (w : World) (i : Value) (wr : World) : Prop :=
  ∃ k : Nat, k ≤ 32 ∧ i = .int .i64 k ∧ wr.heap[w.heap.size]? = some (.cells (otL s k).toArray 44 (0, 0)) ∧ Below w.heap.size w wr
theorem one_cells (s : St) : ∀ u ∈ s.cells, u.oneCell' = true := by
  intro u hu
  simp [St.cells] at hu
  rcases hu with rfl | rfl | rfl | rfl | rfl | rfl | rfl | rfl <;> rfl
theorem ref_news {w : World} {H T : Nat} {s : St} (h : w.heap[H]? = some (.cells s.cells.toArray T (0, 0))) (o : Obj) : ∀ j u, s.cells[j]? = some u → (w.alloc o).cell? ((⟨H, 0, none⟩ : Addr).add j) = some u := by
  intro j u hu
  have hH : H < w.heap.size := (Array.getElem?_eq_some_iff.1 h).1
  rw [Addr.add_mid, Nat.zero_add, cell_of_row (w.alloc o) H j _ T (0, 0) (by rw [Below.heap_alloc _ _ _ hH]; exact h)]
  simpa using hu
theorem padded_mod (bs : List UInt8) : (padded bs).length % 64 = 0 := by rw [padded_length]; exact (padLen_bd _).2.2
def MnInv (bs : List UInt8) (w3 : World) (H : Nat) (i : Value) (wr : World) : Prop :=
  ∃ j : Nat, j ≤ (padded bs).length / 64 ∧ i = .int .i64 ((64 * j : Nat) : Int) ∧ wr.heap[H]? = some (.cells (blocks (padded bs) j).cells.toArray 23 (0, 0)) ∧ w3.grownBy wr (some H)
theorem ref_frame {w w2 wr w3 : World} {bs : List UInt8} {g m c H K : Nat} (F1 : Below w.heap.size w w2) (F2 : w2.heap.size = w.heap.size + 2) (F3 : w2.heap[w.heap.size]? = some (.cells (List.replicate 32 (bV 0)).toArray 44 (0, 0)))
    (F4 : w2.heap[w.heap.size + 1]? = some (.cells start.cells.toArray 23 (0, 0))) (HB2 : Below w2.heap.size w2 wr) (HB3 : Below wr.heap.size wr w3) (HC : w3.heap[wr.heap.size]? = some (.cells (kList.map wV).toArray 23 (0, 0)))
    (HO : wr.ownsRow w2.heap.size 5 1 (.slice (some ⟨g, 0, none⟩) m c) m ((padded bs).map bV)) (hg : w2.heap.size ≤ g) (hH : H = w.heap.size + 1) (hK : K = wr.heap.size) (hm : m = (padded bs).length) :
    (∀ j, j < m → w3.cell? ⟨g, j, none⟩ = some (.int .u8 (bv ((padded bs).getD j 0)))) ∧ w3.heap[K]? = some (.cells (kList.map wV).toArray 23 (0, 0)) ∧ w3.heap[H]? = some (.cells start.cells.toArray 23 (0, 0))
      ∧ w3.heap[w.heap.size]? = some (.cells (List.replicate 32 (bV 0)).toArray 44 (0, 0)) ∧ Below w.heap.size w w3 ∧ H < K ∧ g ≠ H ∧ K < w3.heap.size ∧ w.heap.size < H := by
  subst hH hK
  have s2 := HB2.size
  refine ⟨fun j hj => ?_, HC, ?_, ?_, (F1.trans (HB2.mono (by omega))).trans (HB3.mono (by omega)), by omega, by omega, (Array.getElem?_eq_some_iff.1 HC).1, by omega⟩
  · have h := HO.cellAt j (by omega)
    have hj2 : j < (padded bs).length := by omega
    have h2 : wr.cell? ⟨g, j, none⟩ = some (.int .u8 (bv ((padded bs).getD j 0))) := by
      rw [h, List.getElem?_map, List.getElem?_eq_getElem hj2]
      simp [bV, List.getD, List.getElem?_eq_getElem hj2]
    rw [HB3.cell (p := ⟨g, j, none⟩) (World.block_lt_of_cell? wr _ h2)]
    exact h2
  · rw [HB3.block _ (by omega), HB2.block _ (by omega)]; exact F4
  · rw [HB3.block _ (by omega), HB2.block _ (by omega)]; exact F3
theorem ref_setup (w : World) (z : Array Value) (T : TypeId) (o : Obj) : ∃ w2, (w.alloc (.cells z T)).alloc o = w2 ∧ Below w.heap.size w w2 ∧ w2.heap.size = w.heap.size + 2 ∧ w2.heap[w.heap.size]? = some (.cells z T (0, 0)) ∧ w2.heap[w.heap.size + 1]? = some o :=
  ⟨_, rfl, ((Below.refl _ _).alloc (Nat.le_refl _) _).alloc (by simp) _, by simp, heap_alloc2_old _ _ _, heap_alloc2_new _ _ _⟩
theorem zeros_more (n j : Nat) (h : j < padLen n - 1) : ¬ (n + 1 + j) % 64 = 56 := by unfold padLen at h; split at h <;> omega
theorem zeros_end (n : Nat) : (n + 1 + (padLen n - 1)) % 64 = 56 := by unfold padLen; split <;> omega
/-- The loops of a piece of code, the outer ahead of the inner. -/
def loopsOf : Code → List Code
  | .loop c => c :: loopsOf c
  | .seq a b => loopsOf a ++ loopsOf b
  | .block _ c => loopsOf c
  | .scope c => loopsOf c
  | .cond _ a b => loopsOf a ++ loopsOf b
  | _ => []
noncomputable def schedBody : Code := ((Tryz.f20.body.bind fun c => (loopsOf c)[3]?).getD .skip)
noncomputable def roundsBody : Code := ((Tryz.f20.body.bind fun c => (loopsOf c)[4]?).getD .skip)
noncomputable def addsBody : Code := ((Tryz.f20.body.bind fun c => (loopsOf c)[5]?).getD .skip)
attribute [local go_sem] bv_u32 bv_u32' wv_shl24 wv_shl16 wv_shl8 wr_shl24 wr_shl16 wr_shl8 wv_or wv_sum wv_add wv_xor wv_and wv_andNot wv_not wv_sum3 wv_sum4 wv_shr3 wv_shr10
set_option maxHeartbeats 4000000 in
set_option maxRecDepth 100000 in
theorem sched_loop (b : Nat → UInt8) (g2 at' m2 cp2 : Nat) (wo w1 : World) (hfit : at' + 64 ≤ m2) (hm2 : m2 ≤ 40000000000000) (HB : Hid (∀ i, i < 64 → wo.cell? ⟨g2, at' + i, none⟩ = some (.int .u8 (bv (b i))))) (H1 : Hid (RsInv b wo.heap.size wo (.int .i64 0) w1)) (Q : Exit → Act → World → Prop)
    (t0 t1 t2 t3 t5 t6 t7 t11 t12 t13 t14 t15 t16 t17 t18 t19 t20 t21 t22 t23 t24 t25 t26 t27 t28 t29 t30 t31 t32 t33 t34 t35 t36 t37 t38 t39 t40 t41 t42 t43 t44 t45 t46 t47 t48 t49 t50 t51 t52 t53 t54 t55 t56 t57 t58 t59 t60 t61 t62 t63 t64 t65 t66 t67 t68 t69 t70 t71 t72 t73 t74 t75 t76 t77 t78 t79 t80 t81 t82 t83 t84 t85 t86 t87 t88 t89 t90 t91 t92 t93 t94 t95 t96 t97 t98 t99 t100 t101 t102 t103 t104 t105 t106 t107 t108 t109 t110 t111 t112 t113 t114 t115 t116 t117 t118 t119 t120 t121 t122 t123 t124 t125 t126 t127 t128 t129 t130 t131 t132 t133 t134 t135 t136 t137 t138 t139 t140 t141 t142 t143 t144 t145 t146 t147 t148 t149 t150 t151 t152 t153 t154 t155 t156 t157 t158 t159 t160 t161 t162 t163 t164 t165 t166 t167 t168 t169 t170 t171 t172 t173 t174 t175 t176 t177 t178 t179 t180 t181 t182 t183 t184 t185 t186 t187 t188 t189 t190 t191 t192 t193 t194 t195 t196 t197 t198 t199 t200 t201 t202 t203 t204 t205 t206 t207 t208 t209 t210 t211 t212 t213 t214 t215 t216 t217 t218 t219 t220 t221 t222 t223 t224 t225 t226 t227 t228 t229 t230 t231 t232 t233 t234 t235 t236 t237 t238 t239 t240 t241 t242 t243 t244 t245 t246 t247 t248 t249 t250 t251 t252 t253 t254 t255 t256 t257 t258 t259 t260 t261 t262 t263 t264 t265 t266 t267 t268 t269 t270 t271 t272 t273 t274 t275 t276 t277 t278 t279 t280 t281 : Value)
    (hexit : ∀ (u11 u12 u13 u60 u61 u62 u63 u64 u65 u66 u67 u68 u69 u70 u71 u72 u73 u74 u75 u76 u77 u78 u79 u80 u81 u82 u83 u84 u85 u86 u87 u88 u89 u90 u91 u92 u93 u94 u95 u96 u97 u98 u99 u100 u101 u102 u103 u104 u105 u106 u107 u108 u109 u110 u111 u112 u113 u114 u115 u116 u117 u118 u119 u120 u121 u122 u123 u124 u125 u126 u127 u128 u129 u130 u131 u132 u133 u134 u135 u136 u137 u138 u139 u140 u141 u142 u143 : Value) (wr : World), Hid (wr.heap[wo.heap.size]? = some (.cells (rowV b 64).toArray 23 (0, 0)) ∧ Below wo.heap.size wo wr) → Q (.exit 6) ⟨List.toArray (t0 :: t1 :: t2 :: t3 :: (.slice (some ⟨g2, 0, none⟩) m2 cp2) :: t5 :: t6 :: t7 :: (.int .i64 (at' : Int)) :: (.slice (some ⟨wo.heap.size, 0, none⟩) 64 64) :: (.int .i64 (64 : Nat)) :: u11 :: u12 :: u13 :: t14 :: t15 :: t16 :: t17 :: t18 :: t19 :: t20 :: t21 :: t22 :: t23 :: t24 :: t25 :: t26 :: t27 :: t28 :: t29 :: t30 :: t31 :: t32 :: t33 :: t34 :: t35 :: t36 :: t37 :: t38 :: t39 :: t40 :: t41 :: t42 :: t43 :: t44 :: t45 :: t46 :: t47 :: t48 :: t49 :: t50 :: t51 :: t52 :: t53 :: t54 :: t55 :: t56 :: t57 :: t58 :: t59 :: u60 :: u61 :: u62 :: u63 :: u64 :: u65 :: u66 :: u67 :: u68 :: u69 :: u70 :: u71 :: u72 :: u73 :: u74 :: u75 :: u76 :: u77 :: u78 :: u79 :: u80 :: u81 :: u82 :: u83 :: u84 :: u85 :: u86 :: u87 :: u88 :: u89 :: u90 :: u91 :: u92 :: u93 :: u94 :: u95 :: u96 :: u97 :: u98 :: u99 :: u100 :: u101 :: u102 :: u103 :: u104 :: u105 :: u106 :: u107 :: u108 :: u109 :: u110 :: u111 :: u112 :: u113 :: u114 :: u115 :: u116 :: u117 :: u118 :: u119 :: u120 :: u121 :: u122 :: u123 :: u124 :: u125 :: u126 :: u127 :: u128 :: u129 :: u130 :: u131 :: u132 :: u133 :: u134 :: u135 :: u136 :: u137 :: u138 :: u139 :: u140 :: u141 :: u142 :: u143 :: t144 :: t145 :: t146 :: t147 :: t148 :: t149 :: t150 :: t151 :: t152 :: t153 :: t154 :: t155 :: t156 :: t157 :: t158 :: t159 :: t160 :: t161 :: t162 :: t163 :: t164 :: t165 :: t166 :: t167 :: t168 :: t169 :: t170 :: t171 :: t172 :: t173 :: t174 :: t175 :: t176 :: t177 :: t178 :: t179 :: t180 :: t181 :: t182 :: t183 :: t184 :: t185 :: t186 :: t187 :: t188 :: t189 :: t190 :: t191 :: t192 :: t193 :: t194 :: t195 :: t196 :: t197 :: t198 :: t199 :: t200 :: t201 :: t202 :: t203 :: t204 :: t205 :: t206 :: t207 :: t208 :: t209 :: t210 :: t211 :: t212 :: t213 :: t214 :: t215 :: t216 :: t217 :: t218 :: t219 :: t220 :: t221 :: t222 :: t223 :: t224 :: t225 :: t226 :: t227 :: t228 :: t229 :: t230 :: t231 :: t232 :: t233 :: t234 :: t235 :: t236 :: t237 :: t238 :: t239 :: t240 :: t241 :: t242 :: t243 :: t244 :: t245 :: t246 :: t247 :: t248 :: t249 :: t250 :: t251 :: t252 :: t253 :: t254 :: t255 :: t256 :: t257 :: t258 :: t259 :: t260 :: t261 :: t262 :: t263 :: t264 :: t265 :: t266 :: t267 :: t268 :: t269 :: t270 :: t271 :: t272 :: t273 :: t274 :: t275 :: t276 :: t277 :: t278 :: t279 :: t280 :: t281 :: []), []⟩ wr) :
    Code.wp Tryz.prog (Code.loop schedBody) Q ⟨List.toArray (t0 :: t1 :: t2 :: t3 :: (.slice (some ⟨g2, 0, none⟩) m2 cp2) :: t5 :: t6 :: t7 :: (.int .i64 (at' : Int)) :: (.slice (some ⟨wo.heap.size, 0, none⟩) 64 64) :: (.int .i64 0) :: t11 :: t12 :: t13 :: t14 :: t15 :: t16 :: t17 :: t18 :: t19 :: t20 :: t21 :: t22 :: t23 :: t24 :: t25 :: t26 :: t27 :: t28 :: t29 :: t30 :: t31 :: t32 :: t33 :: t34 :: t35 :: t36 :: t37 :: t38 :: t39 :: t40 :: t41 :: t42 :: t43 :: t44 :: t45 :: t46 :: t47 :: t48 :: t49 :: t50 :: t51 :: t52 :: t53 :: t54 :: t55 :: t56 :: t57 :: t58 :: t59 :: t60 :: t61 :: t62 :: t63 :: t64 :: t65 :: t66 :: t67 :: t68 :: t69 :: t70 :: t71 :: t72 :: t73 :: t74 :: t75 :: t76 :: t77 :: t78 :: t79 :: t80 :: t81 :: t82 :: t83 :: t84 :: t85 :: t86 :: t87 :: t88 :: t89 :: t90 :: t91 :: t92 :: t93 :: t94 :: t95 :: t96 :: t97 :: t98 :: t99 :: t100 :: t101 :: t102 :: t103 :: t104 :: t105 :: t106 :: t107 :: t108 :: t109 :: t110 :: t111 :: t112 :: t113 :: t114 :: t115 :: t116 :: t117 :: t118 :: t119 :: t120 :: t121 :: t122 :: t123 :: t124 :: t125 :: t126 :: t127 :: t128 :: t129 :: t130 :: t131 :: t132 :: t133 :: t134 :: t135 :: t136 :: t137 :: t138 :: t139 :: t140 :: t141 :: t142 :: t143 :: t144 :: t145 :: t146 :: t147 :: t148 :: t149 :: t150 :: t151 :: t152 :: t153 :: t154 :: t155 :: t156 :: t157 :: t158 :: t159 :: t160 :: t161 :: t162 :: t163 :: t164 :: t165 :: t166 :: t167 :: t168 :: t169 :: t170 :: t171 :: t172 :: t173 :: t174 :: t175 :: t176 :: t177 :: t178 :: t179 :: t180 :: t181 :: t182 :: t183 :: t184 :: t185 :: t186 :: t187 :: t188 :: t189 :: t190 :: t191 :: t192 :: t193 :: t194 :: t195 :: t196 :: t197 :: t198 :: t199 :: t200 :: t201 :: t202 :: t203 :: t204 :: t205 :: t206 :: t207 :: t208 :: t209 :: t210 :: t211 :: t212 :: t213 :: t214 :: t215 :: t216 :: t217 :: t218 :: t219 :: t220 :: t221 :: t222 :: t223 :: t224 :: t225 :: t226 :: t227 :: t228 :: t229 :: t230 :: t231 :: t232 :: t233 :: t234 :: t235 :: t236 :: t237 :: t238 :: t239 :: t240 :: t241 :: t242 :: t243 :: t244 :: t245 :: t246 :: t247 :: t248 :: t249 :: t250 :: t251 :: t252 :: t253 :: t254 :: t255 :: t256 :: t257 :: t258 :: t259 :: t260 :: t261 :: t262 :: t263 :: t264 :: t265 :: t266 :: t267 :: t268 :: t269 :: t270 :: t271 :: t272 :: t273 :: t274 :: t275 :: t276 :: t277 :: t278 :: t279 :: t280 :: t281 :: []), []⟩ w1 := by
  unfold schedBody
  conv => arg 2; arg 1; whnf
  go_loopw [10] (fun i w' => RsInv b wo.heap.size wo i w') (fun i _ => 64 - (intOf i).toNat)
  case atStart => exact H1.out
  case round =>
    obtain ⟨k, hk, rfl, hrow, hbel⟩ := hrel
    by_cases hlt2 : k < 64
    · by_cases h16 : k < 16
      · have hb' : ∀ i, i < 64 → wr.cell? ⟨g2, at' + i, none⟩ = some (.int .u8 (bv (b i))) := fun i hi => by
          have h0 := HB.out i hi
          rw [hbel.cell (p := ⟨g2, at' + i, none⟩) (World.block_lt_of_cell? wo _ h0)]
          exact h0
        obtain ⟨p, hp⟩ : ∃ p, p = at' + 4 * k := ⟨_, rfl⟩
        have c0 : wr.cell? ⟨g2, p, none⟩ = some (.int .u8 (bv (b (4 * k)))) := by rw [hp]; exact hb' _ (by omega)
        have c1 : wr.cell? ⟨g2, p + 1, none⟩ = some (.int .u8 (bv (b (4 * k + 1)))) := by rw [hp]; exact hb' (4 * k + 1) (by omega)
        have c2 : wr.cell? ⟨g2, p + 2, none⟩ = some (.int .u8 (bv (b (4 * k + 2)))) := by rw [hp]; exact hb' (4 * k + 2) (by omega)
        have c3 : wr.cell? ⟨g2, p + 3, none⟩ = some (.int .u8 (bv (b (4 * k + 3)))) := by rw [hp]; exact hb' (4 * k + 3) (by omega)
        have hp3 : p + 3 < m2 := by omega
        have ep : (at' : Int) + 4 * (k : Int) = (p : Int) := by omega
        have HR := Lib.hid hrow
        have HW := Lib.hid hbel
        clear hrow hbel hb' hp
        go_wp2_with fail
        have g1 : IntKind.i64.wrap ((p : Int) + 1) = (p : Int) + 1 := IntWalk.i64_in _ (by omega)
        have g2' : IntKind.i64.wrap ((p : Int) + 2) = (p : Int) + 2 := IntWalk.i64_in _ (by omega)
        have g3 : IntKind.i64.wrap ((p : Int) + 3) = (p : Int) + 3 := IntWalk.i64_in _ (by omega)
        have p0 : 0 ≤ (p : Int) := by omega
        have p1 : 0 ≤ (p : Int) + 1 := by omega
        have p2 : 0 ≤ (p : Int) + 2 := by omega
        have p3 : 0 ≤ (p : Int) + 3 := by omega
        have q0 : (p : Int) < (m2 : Int) := by omega
        have q1 : (p : Int) + 1 < (m2 : Int) := by omega
        have q2 : (p : Int) + 2 < (m2 : Int) := by omega
        have q3 : (p : Int) + 3 < (m2 : Int) := by omega
        have n1 : ((p : Int) + 1).toNat = p + 1 := by omega
        have n2 : ((p : Int) + 2).toNat = p + 2 := by omega
        have n3 : ((p : Int) + 3).toNat = p + 3 := by omega
        have q4 : (k : Int) < 64 := by omega
        have p4 : 0 ≤ (k : Int) := by omega
        go_still_tail 32, (by kernel_rfl)
        change wpList _ _ _ _ _ wr.drew
        clear g1 g2' g3 n1 n2 n3 q0 q1 q2 q3 p0 p1 p2 p3 c0 c1 c2 c3
        have s0 : wr.cell? ⟨wo.heap.size, k, none⟩ = some (wV 0) := by rw [cell_of_row wr _ k _ _ _ HR.out]; exact rowV_zero b k k (Nat.le_refl _) (by omega)
        have s1 : wr.frozen? ⟨wo.heap.size, k, none⟩ = false := frozen_of_row wr _ k _ _ HR.out
        go_wp2
        go_roundw
        case rel =>
          obtain ⟨r1, r2⟩ := rs_step HR.out HW.out hlt2 _ (nextW_low b k _ h16)
          exact ⟨k + 1, by omega, by go_num, r1, r2⟩
        case measure => simp [intOf]; omega
      · obtain ⟨x2, hx2⟩ : ∃ x : UInt32, (row b k).getD (k - 2) 0 = x := ⟨_, rfl⟩
        obtain ⟨x7, hx7⟩ : ∃ x : UInt32, (row b k).getD (k - 7) 0 = x := ⟨_, rfl⟩
        obtain ⟨x15, hx15⟩ : ∃ x : UInt32, (row b k).getD (k - 15) 0 = x := ⟨_, rfl⟩
        obtain ⟨x16, hx16⟩ : ∃ x : UInt32, (row b k).getD (k - 16) 0 = x := ⟨_, rfl⟩
        have HX := Lib.hid (nextW_ref b k (row b k) (by omega) hx2 hx7 hx15 hx16)
        have c2 : wr.cell? ⟨wo.heap.size, k - 2, none⟩ = some (.int .u32 (wv x2)) := by rw [cell_of_row wr _ _ _ _ _ hrow, rowV_get b k _ (by omega), hx2]
        have c7 : wr.cell? ⟨wo.heap.size, k - 7, none⟩ = some (.int .u32 (wv x7)) := by rw [cell_of_row wr _ _ _ _ _ hrow, rowV_get b k _ (by omega), hx7]
        have c15 : wr.cell? ⟨wo.heap.size, k - 15, none⟩ = some (.int .u32 (wv x15)) := by rw [cell_of_row wr _ _ _ _ _ hrow, rowV_get b k _ (by omega), hx15]
        have c16 : wr.cell? ⟨wo.heap.size, k - 16, none⟩ = some (.int .u32 (wv x16)) := by rw [cell_of_row wr _ _ _ _ _ hrow, rowV_get b k _ (by omega), hx16]
        have HR := Lib.hid hrow
        have HW := Lib.hid hbel
        clear hx2 hx7 hx15 hx16 hrow hbel
        have g2' : IntKind.i64.wrap ((k : Int) - 2) = (k : Int) - 2 := IntWalk.i64_in _ (by omega)
        have g7 : IntKind.i64.wrap ((k : Int) - 7) = (k : Int) - 7 := IntWalk.i64_in _ (by omega)
        have g15 : IntKind.i64.wrap ((k : Int) - 15) = (k : Int) - 15 := IntWalk.i64_in _ (by omega)
        have g16 : IntKind.i64.wrap ((k : Int) - 16) = (k : Int) - 16 := IntWalk.i64_in _ (by omega)
        have p2 : 0 ≤ (k : Int) - 2 := by omega
        have p7 : 0 ≤ (k : Int) - 7 := by omega
        have p15 : 0 ≤ (k : Int) - 15 := by omega
        have p16 : 0 ≤ (k : Int) - 16 := by omega
        have r2 : 2 ≤ (k : Int) := by omega
        have r7 : 7 ≤ (k : Int) := by omega
        have r15 : 15 ≤ (k : Int) := by omega
        have r16 : 16 ≤ (k : Int) := by omega
        have q2 : (k : Int) - 2 < 64 := by omega
        have q7 : (k : Int) - 7 < 64 := by omega
        have q15 : (k : Int) - 15 < 64 := by omega
        have q16 : (k : Int) - 16 < 64 := by omega
        have n2 : ((k : Int) - 2).toNat = k - 2 := by omega
        have n7 : ((k : Int) - 7).toNat = k - 7 := by omega
        have n15 : ((k : Int) - 15).toNat = k - 15 := by omega
        have n16 : ((k : Int) - 16).toNat = k - 16 := by omega
        have q0 : (k : Int) < 64 := by omega
        have p0 : 0 ≤ (k : Int) := by omega
        go_wp2_with fail
        refine wp_region_still_tail 32 (by kernel_rfl) (by kernel_rfl) ?_
        simp only [List.take_succ_cons, List.take_zero, List.drop_succ_cons, List.drop_zero]
        repeat still_step
        still_call (same_of (right_any x15 7 _ rfl (by omega) (by omega) _))
        repeat still_step
        still_call (same_of (right_any x15 18 _ rfl (by omega) (by omega) _))
        repeat still_step
        still_call (same_of (right_any x2 17 _ rfl (by omega) (by omega) _))
        repeat still_step
        still_call (same_of (right_any x2 19 _ rfl (by omega) (by omega) _))
        repeat still_step
        refine wpStill_nil ?_
        change wpList _ _ _ _ _ wr.drew
        clear g2' g7 g15 g16 p2 p7 p15 p16 r2 r7 r15 r16 q2 q7 q15 q16 n2 n7 n15 n16 c2 c7 c15 c16
        have s0 : wr.cell? ⟨wo.heap.size, k, none⟩ = some (wV 0) := by rw [cell_of_row wr _ k _ _ _ HR.out]; exact rowV_zero b k k (Nat.le_refl _) (by omega)
        have s1 : wr.frozen? ⟨wo.heap.size, k, none⟩ = false := frozen_of_row wr _ k _ _ HR.out
        go_wp2
        go_roundw
        case rel =>
          obtain ⟨t1, t2⟩ := rs_step HR.out HW.out hlt2 _ HX.out
          exact ⟨k + 1, by omega, by go_num, t1, t2⟩
        case measure => simp [intOf]; omega
    · have hk64 : k = 64 := by omega
      subst hk64
      have HX := Lib.hid (And.intro hrow hbel)
      have hge : ¬ ((64 : Nat) : Int) < 64 := by omega
      clear hrow hbel HB H1
      go_wp2_with fail
      all_goals (first | exact HX | exact Lib.hid HX.out.2)
set_option maxHeartbeats 4000000 in
set_option maxRecDepth 100000 in
theorem rounds_loop (l : List UInt32) (s : St) (K B g5 cp5 : Nat) (wq w1 : World) (HLL : Hid (l.length = 64)) (hKw : K < wq.heap.size) (hwq : B < wq.heap.size) (HKQ : Hid (wq.heap[K]? = some (.cells (kList.map wV).toArray 23 (0, 0)))) (HWS : Hid (wq.heap[B]? = some (.cells (l.map wV).toArray 23 (0, 0)))) (H1 : Hid (RrInv l s wq (.slice (some ⟨g5, 0, none⟩) 8 cp5) (.int .i64 0) w1)) (Q : Exit → Act → World → Prop)
    (t0 t1 t2 t3 t4 t5 t6 t8 t10 t11 t12 t13 t16 t17 t18 t19 t20 t21 t22 t23 t24 t25 t26 t27 t28 t29 t30 t31 t32 t33 t34 t35 t36 t37 t38 t39 t40 t41 t42 t43 t44 t45 t46 t47 t48 t49 t50 t51 t52 t53 t54 t55 t56 t57 t58 t59 t60 t61 t62 t63 t64 t65 t66 t67 t68 t69 t70 t71 t72 t73 t74 t75 t76 t77 t78 t79 t80 t81 t82 t83 t84 t85 t86 t87 t88 t89 t90 t91 t92 t93 t94 t95 t96 t97 t98 t99 t100 t101 t102 t103 t104 t105 t106 t107 t108 t109 t110 t111 t112 t113 t114 t115 t116 t117 t118 t119 t120 t121 t122 t123 t124 t125 t126 t127 t128 t129 t130 t131 t132 t133 t134 t135 t136 t137 t138 t139 t140 t141 t142 t143 t144 t145 t146 t147 t148 t149 t150 t151 t152 t153 t154 t155 t156 t157 t158 t159 t160 t161 t162 t163 t164 t165 t166 t167 t168 t169 t170 t171 t172 t173 t174 t175 t176 t177 t178 t179 t180 t181 t182 t183 t184 t185 t186 t187 t188 t189 t190 t191 t192 t193 t194 t195 t196 t197 t198 t199 t200 t201 t202 t203 t204 t205 t206 t207 t208 t209 t210 t211 t212 t213 t214 t215 t216 t217 t218 t219 t220 t221 t222 t223 t224 t225 t226 t227 t228 t229 t230 t231 t232 t233 t234 t235 t236 t237 t238 t239 t240 t241 t242 t243 t244 t245 t246 t247 t248 t249 t250 t251 t252 t253 t254 t255 t256 t257 t258 t259 t260 t261 t262 t263 t264 t265 t266 t267 t268 t269 t270 t271 t272 t273 t274 t275 t276 t277 t278 t279 t280 t281 : Value)
    (hexit : ∀ (u16 u17 u18 u19 u147 u148 u149 u150 u151 u152 u153 u154 u155 u156 u157 u158 u159 u160 u161 u162 u163 u164 u165 u166 u167 u168 u169 u170 u171 u172 u173 u174 u175 u176 u177 u178 u179 u180 u181 u182 u183 u184 u185 u186 u187 u188 u189 u190 u191 u192 u193 u194 u195 u196 u197 u198 u199 u200 u201 u202 u203 u204 u205 u206 u207 u208 u209 u210 u211 u212 u213 u214 u215 u216 u217 u218 u219 u220 u221 u222 u223 u224 u225 u226 u227 u228 u229 u230 u231 u232 u233 u234 u235 u236 u237 u238 u239 u240 u241 u242 u243 u244 u245 u246 : Value) (g6 cp6 : Nat) (wr : World), Hid (wq.heap.size ≤ g6 ∧ (∀ j x, (rounds l s 64).cells[j]? = some x → wr.cell? ⟨g6, j, none⟩ = some x) ∧ Below wq.heap.size wq wr) → Q (.exit 8) ⟨List.toArray (t0 :: t1 :: t2 :: t3 :: t4 :: t5 :: t6 :: (.slice (some ⟨K, 0, none⟩) 64 64) :: t8 :: (.slice (some ⟨B, 0, none⟩) 64 64) :: t10 :: t11 :: t12 :: t13 :: (.slice (some ⟨g6, 0, none⟩) 8 cp6) :: (.int .i64 (64 : Nat)) :: u16 :: u17 :: u18 :: u19 :: t20 :: t21 :: t22 :: t23 :: t24 :: t25 :: t26 :: t27 :: t28 :: t29 :: t30 :: t31 :: t32 :: t33 :: t34 :: t35 :: t36 :: t37 :: t38 :: t39 :: t40 :: t41 :: t42 :: t43 :: t44 :: t45 :: t46 :: t47 :: t48 :: t49 :: t50 :: t51 :: t52 :: t53 :: t54 :: t55 :: t56 :: t57 :: t58 :: t59 :: t60 :: t61 :: t62 :: t63 :: t64 :: t65 :: t66 :: t67 :: t68 :: t69 :: t70 :: t71 :: t72 :: t73 :: t74 :: t75 :: t76 :: t77 :: t78 :: t79 :: t80 :: t81 :: t82 :: t83 :: t84 :: t85 :: t86 :: t87 :: t88 :: t89 :: t90 :: t91 :: t92 :: t93 :: t94 :: t95 :: t96 :: t97 :: t98 :: t99 :: t100 :: t101 :: t102 :: t103 :: t104 :: t105 :: t106 :: t107 :: t108 :: t109 :: t110 :: t111 :: t112 :: t113 :: t114 :: t115 :: t116 :: t117 :: t118 :: t119 :: t120 :: t121 :: t122 :: t123 :: t124 :: t125 :: t126 :: t127 :: t128 :: t129 :: t130 :: t131 :: t132 :: t133 :: t134 :: t135 :: t136 :: t137 :: t138 :: t139 :: t140 :: t141 :: t142 :: t143 :: t144 :: t145 :: t146 :: u147 :: u148 :: u149 :: u150 :: u151 :: u152 :: u153 :: u154 :: u155 :: u156 :: u157 :: u158 :: u159 :: u160 :: u161 :: u162 :: u163 :: u164 :: u165 :: u166 :: u167 :: u168 :: u169 :: u170 :: u171 :: u172 :: u173 :: u174 :: u175 :: u176 :: u177 :: u178 :: u179 :: u180 :: u181 :: u182 :: u183 :: u184 :: u185 :: u186 :: u187 :: u188 :: u189 :: u190 :: u191 :: u192 :: u193 :: u194 :: u195 :: u196 :: u197 :: u198 :: u199 :: u200 :: u201 :: u202 :: u203 :: u204 :: u205 :: u206 :: u207 :: u208 :: u209 :: u210 :: u211 :: u212 :: u213 :: u214 :: u215 :: u216 :: u217 :: u218 :: u219 :: u220 :: u221 :: u222 :: u223 :: u224 :: u225 :: u226 :: u227 :: u228 :: u229 :: u230 :: u231 :: u232 :: u233 :: u234 :: u235 :: u236 :: u237 :: u238 :: u239 :: u240 :: u241 :: u242 :: u243 :: u244 :: u245 :: u246 :: t247 :: t248 :: t249 :: t250 :: t251 :: t252 :: t253 :: t254 :: t255 :: t256 :: t257 :: t258 :: t259 :: t260 :: t261 :: t262 :: t263 :: t264 :: t265 :: t266 :: t267 :: t268 :: t269 :: t270 :: t271 :: t272 :: t273 :: t274 :: t275 :: t276 :: t277 :: t278 :: t279 :: t280 :: t281 :: []), []⟩ wr) :
    Code.wp Tryz.prog (Code.loop roundsBody) Q ⟨List.toArray (t0 :: t1 :: t2 :: t3 :: t4 :: t5 :: t6 :: (.slice (some ⟨K, 0, none⟩) 64 64) :: t8 :: (.slice (some ⟨B, 0, none⟩) 64 64) :: t10 :: t11 :: t12 :: t13 :: (.slice (some ⟨g5, 0, none⟩) 8 cp5) :: (.int .i64 0) :: t16 :: t17 :: t18 :: t19 :: t20 :: t21 :: t22 :: t23 :: t24 :: t25 :: t26 :: t27 :: t28 :: t29 :: t30 :: t31 :: t32 :: t33 :: t34 :: t35 :: t36 :: t37 :: t38 :: t39 :: t40 :: t41 :: t42 :: t43 :: t44 :: t45 :: t46 :: t47 :: t48 :: t49 :: t50 :: t51 :: t52 :: t53 :: t54 :: t55 :: t56 :: t57 :: t58 :: t59 :: t60 :: t61 :: t62 :: t63 :: t64 :: t65 :: t66 :: t67 :: t68 :: t69 :: t70 :: t71 :: t72 :: t73 :: t74 :: t75 :: t76 :: t77 :: t78 :: t79 :: t80 :: t81 :: t82 :: t83 :: t84 :: t85 :: t86 :: t87 :: t88 :: t89 :: t90 :: t91 :: t92 :: t93 :: t94 :: t95 :: t96 :: t97 :: t98 :: t99 :: t100 :: t101 :: t102 :: t103 :: t104 :: t105 :: t106 :: t107 :: t108 :: t109 :: t110 :: t111 :: t112 :: t113 :: t114 :: t115 :: t116 :: t117 :: t118 :: t119 :: t120 :: t121 :: t122 :: t123 :: t124 :: t125 :: t126 :: t127 :: t128 :: t129 :: t130 :: t131 :: t132 :: t133 :: t134 :: t135 :: t136 :: t137 :: t138 :: t139 :: t140 :: t141 :: t142 :: t143 :: t144 :: t145 :: t146 :: t147 :: t148 :: t149 :: t150 :: t151 :: t152 :: t153 :: t154 :: t155 :: t156 :: t157 :: t158 :: t159 :: t160 :: t161 :: t162 :: t163 :: t164 :: t165 :: t166 :: t167 :: t168 :: t169 :: t170 :: t171 :: t172 :: t173 :: t174 :: t175 :: t176 :: t177 :: t178 :: t179 :: t180 :: t181 :: t182 :: t183 :: t184 :: t185 :: t186 :: t187 :: t188 :: t189 :: t190 :: t191 :: t192 :: t193 :: t194 :: t195 :: t196 :: t197 :: t198 :: t199 :: t200 :: t201 :: t202 :: t203 :: t204 :: t205 :: t206 :: t207 :: t208 :: t209 :: t210 :: t211 :: t212 :: t213 :: t214 :: t215 :: t216 :: t217 :: t218 :: t219 :: t220 :: t221 :: t222 :: t223 :: t224 :: t225 :: t226 :: t227 :: t228 :: t229 :: t230 :: t231 :: t232 :: t233 :: t234 :: t235 :: t236 :: t237 :: t238 :: t239 :: t240 :: t241 :: t242 :: t243 :: t244 :: t245 :: t246 :: t247 :: t248 :: t249 :: t250 :: t251 :: t252 :: t253 :: t254 :: t255 :: t256 :: t257 :: t258 :: t259 :: t260 :: t261 :: t262 :: t263 :: t264 :: t265 :: t266 :: t267 :: t268 :: t269 :: t270 :: t271 :: t272 :: t273 :: t274 :: t275 :: t276 :: t277 :: t278 :: t279 :: t280 :: t281 :: []), []⟩ w1 := by
  unfold roundsBody
  conv => arg 2; arg 1; whnf
  go_loopw [14, 15] (fun v i w' => RrInv l s wq v i w') (fun _ i _ => 64 - (intOf i).toNat)
  case atStart => exact H1.out
  case round =>
    clear H1
    obtain ⟨t, g6, cp6, ht, rfl, rfl, hcp6, hg6, hcells, hbel⟩ := hrel
    obtain ⟨r, hr⟩ : ∃ r, rounds l s t = r := ⟨_, rfl⟩
    rw [hr] at hcells
    by_cases hlt3 : t < 64
    · have c0 : wr.cell? ⟨g6, 0, none⟩ = some (.int .u32 (wv r.a)) := hcells 0 _ rfl
      have c1 : wr.cell? ⟨g6, 1, none⟩ = some (.int .u32 (wv r.b)) := hcells 1 _ rfl
      have c2 : wr.cell? ⟨g6, 2, none⟩ = some (.int .u32 (wv r.c)) := hcells 2 _ rfl
      have c3 : wr.cell? ⟨g6, 3, none⟩ = some (.int .u32 (wv r.d)) := hcells 3 _ rfl
      have c4 : wr.cell? ⟨g6, 4, none⟩ = some (.int .u32 (wv r.e)) := hcells 4 _ rfl
      have c5 : wr.cell? ⟨g6, 5, none⟩ = some (.int .u32 (wv r.f)) := hcells 5 _ rfl
      have c6 : wr.cell? ⟨g6, 6, none⟩ = some (.int .u32 (wv r.g)) := hcells 6 _ rfl
      have c7 : wr.cell? ⟨g6, 7, none⟩ = some (.int .u32 (wv r.h)) := hcells 7 _ rfl
      obtain ⟨x, hx⟩ : ∃ x, l.getD t 0 = x := ⟨_, rfl⟩
      obtain ⟨kt, hkt⟩ : ∃ kt, kW t = kt := ⟨_, rfl⟩
      have ck : wr.cell? ⟨K, t, none⟩ = some (.int .u32 (wv kt)) := by
        rw [hbel.cell (p := ⟨K, t, none⟩) (by show K < wq.heap.size; omega), cell_of_row _ _ _ _ _ _ HKQ.out, wV_get _ _ (show t < kList.length from hlt3), ← hkt]
        rfl
      have cx : wr.cell? ⟨B, t, none⟩ = some (.int .u32 (wv x)) := by
        rw [hbel.cell (p := ⟨B, t, none⟩) hwq, cell_of_row _ _ _ _ _ _ HWS.out, wV_get _ _ (by rw [HLL.out]; exact hlt3), hx]
      have HE : Hid (rounds l s (t + 1) = r.round kt x) := by
        show (rounds l s t).round (kW t) (l.getD t 0) = _
        rw [hr, hx, hkt]
      have HW6 := Lib.hid hbel
      clear hbel hr hx hkt hcells
      have p0 : 0 ≤ (t : Int) := by omega
      have q0 : (t : Int) < 64 := by omega
      have q8 : (8 : Nat) ≤ 8 := Nat.le_refl _
      go_wp2_with fail
      go_quiet ((go_at_call 52; refine Calls.quiet_of_same (same_of (right_z _ _ (by omega) (by omega) _))))
      go_wp2_with fail
      clear c7 ck cx
      generalize hwk : World.drewN _ _ = wk
      have d0 : wk.cell? ⟨g6, 0, none⟩ = some (.int .u32 (wv r.a)) := by rw [← hwk]; exact c0
      have d1 : wk.cell? ⟨g6, 1, none⟩ = some (.int .u32 (wv r.b)) := by rw [← hwk]; exact c1
      have d2 : wk.cell? ⟨g6, 2, none⟩ = some (.int .u32 (wv r.c)) := by rw [← hwk]; exact c2
      have d3 : wk.cell? ⟨g6, 3, none⟩ = some (.int .u32 (wv r.d)) := by rw [← hwk]; exact c3
      have d4 : wk.cell? ⟨g6, 4, none⟩ = some (.int .u32 (wv r.e)) := by rw [← hwk]; exact c4
      have d5 : wk.cell? ⟨g6, 5, none⟩ = some (.int .u32 (wv r.f)) := by rw [← hwk]; exact c5
      have d6 : wk.cell? ⟨g6, 6, none⟩ = some (.int .u32 (wv r.g)) := by rw [← hwk]; exact c6
      have HWk : Hid (Below wq.heap.size wq wk) := Lib.hid (by rw [← hwk]; exact below_drewN HW6.out _)
      clear hwk c0 c1 c2 c3 c4 c5 c6 HW6
      go_quiet ((go_at_call 52; refine Calls.quiet_of_same (same_of (right_z _ _ (by omega) (by omega) _))))
      go_wp2_with fail
      generalize hwk : World.drewN _ _ = wm
      have c0 : wm.cell? ⟨g6, 0, none⟩ = some (.int .u32 (wv r.a)) := by rw [← hwk]; exact d0
      have c1 : wm.cell? ⟨g6, 1, none⟩ = some (.int .u32 (wv r.b)) := by rw [← hwk]; exact d1
      have c2 : wm.cell? ⟨g6, 2, none⟩ = some (.int .u32 (wv r.c)) := by rw [← hwk]; exact d2
      have c3 : wm.cell? ⟨g6, 3, none⟩ = some (.int .u32 (wv r.d)) := by rw [← hwk]; exact d3
      have c4 : wm.cell? ⟨g6, 4, none⟩ = some (.int .u32 (wv r.e)) := by rw [← hwk]; exact d4
      have c5 : wm.cell? ⟨g6, 5, none⟩ = some (.int .u32 (wv r.f)) := by rw [← hwk]; exact d5
      have c6 : wm.cell? ⟨g6, 6, none⟩ = some (.int .u32 (wv r.g)) := by rw [← hwk]; exact d6
      have HWm : Hid (Below wq.heap.size wq wm) := Lib.hid (by rw [← hwk]; exact below_drewN HWk.out _)
      clear hwk d0 d1 d2 d3 d4 d5 d6 HWk
      go_still_tail 26, (by kernel_rfl)
      change wpList _ _ _ _ _ (World.drew _)
      clear c0 c1 c2 c3 c4 c5 c6
      go_wp2_with fail
      go_roundw
      case rel =>
        refine ⟨t + 1, wm.heap.size, 8, by omega, by go_num, rfl, Nat.le_refl _, HWm.out.size, fun j x hx => ?_, (HWm.out.alloc HWm.out.size _).drew⟩
        rw [HE.out] at hx
        rw [cell_of_row _ _ _ _ 23 (0, 0) (by rw [heap_drew]; exact heap_alloc_new _ _), List.getElem?_toArray, UInt32.and_comm (~~~r.e) r.g]
        exact hx
      case measure => simp [intOf]; omega
    · have ht64 : t = 64 := by omega
      subst ht64
      subst hr
      have HX := Lib.hid (And.intro hg6 (And.intro hcells hbel))
      have hge : ¬ ((64 : Nat) : Int) < 64 := by omega
      clear hcells hbel
      go_wp2_with fail
      all_goals (first | exact HX | exact Lib.hid HX.out.2)
set_option maxHeartbeats 4000000 in
set_option maxRecDepth 100000 in
theorem adds_loop (s r : St) (H g6 cp6 : Nat) (wx : World) (hgH : g6 ≠ H) (HV : Hid (∀ j x, r.cells[j]? = some x → wx.cell? ⟨g6, j, none⟩ = some x)) (HHR : Hid (wx.heap[H]? = some (.cells (addHL s r 0).toArray 23 (0, 0)))) (Q : Exit → Act → World → Prop)
    (t0 t1 t2 t4 t5 t6 t7 t8 t9 t10 t11 t12 t13 t15 t16 t17 t18 t19 t21 t22 t23 t24 t25 t26 t27 t28 t29 t30 t31 t32 t33 t34 t35 t36 t37 t38 t39 t40 t41 t42 t43 t44 t45 t46 t47 t48 t49 t50 t51 t52 t53 t54 t55 t56 t57 t58 t59 t60 t61 t62 t63 t64 t65 t66 t67 t68 t69 t70 t71 t72 t73 t74 t75 t76 t77 t78 t79 t80 t81 t82 t83 t84 t85 t86 t87 t88 t89 t90 t91 t92 t93 t94 t95 t96 t97 t98 t99 t100 t101 t102 t103 t104 t105 t106 t107 t108 t109 t110 t111 t112 t113 t114 t115 t116 t117 t118 t119 t120 t121 t122 t123 t124 t125 t126 t127 t128 t129 t130 t131 t132 t133 t134 t135 t136 t137 t138 t139 t140 t141 t142 t143 t144 t145 t146 t147 t148 t149 t150 t151 t152 t153 t154 t155 t156 t157 t158 t159 t160 t161 t162 t163 t164 t165 t166 t167 t168 t169 t170 t171 t172 t173 t174 t175 t176 t177 t178 t179 t180 t181 t182 t183 t184 t185 t186 t187 t188 t189 t190 t191 t192 t193 t194 t195 t196 t197 t198 t199 t200 t201 t202 t203 t204 t205 t206 t207 t208 t209 t210 t211 t212 t213 t214 t215 t216 t217 t218 t219 t220 t221 t222 t223 t224 t225 t226 t227 t228 t229 t230 t231 t232 t233 t234 t235 t236 t237 t238 t239 t240 t241 t242 t243 t244 t245 t246 t247 t248 t249 t250 t251 t252 t253 t254 t255 t256 t257 t258 t259 t260 t261 t262 t263 t264 t265 t266 t267 t268 t269 t270 t271 t272 t273 t274 t275 t276 t277 t278 t279 t280 t281 : Value)
    (hexit : ∀ (u247 u248 u249 u250 u251 u252 u253 u254 u255 u256 u257 u258 u259 u260 u261 u262 : Value) (wr : World), Hid (wr.heap[H]? = some (.cells (addHL s r 8).toArray 23 (0, 0)) ∧ wx.grownBy wr (some H)) → Q (.exit 10) ⟨List.toArray (t0 :: t1 :: t2 :: (.slice (some ⟨H, 0, none⟩) 8 8) :: t4 :: t5 :: t6 :: t7 :: t8 :: t9 :: t10 :: t11 :: t12 :: t13 :: (.slice (some ⟨g6, 0, none⟩) 8 cp6) :: t15 :: t16 :: t17 :: t18 :: t19 :: (.int .i64 (8 : Nat)) :: t21 :: t22 :: t23 :: t24 :: t25 :: t26 :: t27 :: t28 :: t29 :: t30 :: t31 :: t32 :: t33 :: t34 :: t35 :: t36 :: t37 :: t38 :: t39 :: t40 :: t41 :: t42 :: t43 :: t44 :: t45 :: t46 :: t47 :: t48 :: t49 :: t50 :: t51 :: t52 :: t53 :: t54 :: t55 :: t56 :: t57 :: t58 :: t59 :: t60 :: t61 :: t62 :: t63 :: t64 :: t65 :: t66 :: t67 :: t68 :: t69 :: t70 :: t71 :: t72 :: t73 :: t74 :: t75 :: t76 :: t77 :: t78 :: t79 :: t80 :: t81 :: t82 :: t83 :: t84 :: t85 :: t86 :: t87 :: t88 :: t89 :: t90 :: t91 :: t92 :: t93 :: t94 :: t95 :: t96 :: t97 :: t98 :: t99 :: t100 :: t101 :: t102 :: t103 :: t104 :: t105 :: t106 :: t107 :: t108 :: t109 :: t110 :: t111 :: t112 :: t113 :: t114 :: t115 :: t116 :: t117 :: t118 :: t119 :: t120 :: t121 :: t122 :: t123 :: t124 :: t125 :: t126 :: t127 :: t128 :: t129 :: t130 :: t131 :: t132 :: t133 :: t134 :: t135 :: t136 :: t137 :: t138 :: t139 :: t140 :: t141 :: t142 :: t143 :: t144 :: t145 :: t146 :: t147 :: t148 :: t149 :: t150 :: t151 :: t152 :: t153 :: t154 :: t155 :: t156 :: t157 :: t158 :: t159 :: t160 :: t161 :: t162 :: t163 :: t164 :: t165 :: t166 :: t167 :: t168 :: t169 :: t170 :: t171 :: t172 :: t173 :: t174 :: t175 :: t176 :: t177 :: t178 :: t179 :: t180 :: t181 :: t182 :: t183 :: t184 :: t185 :: t186 :: t187 :: t188 :: t189 :: t190 :: t191 :: t192 :: t193 :: t194 :: t195 :: t196 :: t197 :: t198 :: t199 :: t200 :: t201 :: t202 :: t203 :: t204 :: t205 :: t206 :: t207 :: t208 :: t209 :: t210 :: t211 :: t212 :: t213 :: t214 :: t215 :: t216 :: t217 :: t218 :: t219 :: t220 :: t221 :: t222 :: t223 :: t224 :: t225 :: t226 :: t227 :: t228 :: t229 :: t230 :: t231 :: t232 :: t233 :: t234 :: t235 :: t236 :: t237 :: t238 :: t239 :: t240 :: t241 :: t242 :: t243 :: t244 :: t245 :: t246 :: u247 :: u248 :: u249 :: u250 :: u251 :: u252 :: u253 :: u254 :: u255 :: u256 :: u257 :: u258 :: u259 :: u260 :: u261 :: u262 :: t263 :: t264 :: t265 :: t266 :: t267 :: t268 :: t269 :: t270 :: t271 :: t272 :: t273 :: t274 :: t275 :: t276 :: t277 :: t278 :: t279 :: t280 :: t281 :: []), []⟩ wr) :
    Code.wp Tryz.prog (Code.loop addsBody) Q ⟨List.toArray (t0 :: t1 :: t2 :: (.slice (some ⟨H, 0, none⟩) 8 8) :: t4 :: t5 :: t6 :: t7 :: t8 :: t9 :: t10 :: t11 :: t12 :: t13 :: (.slice (some ⟨g6, 0, none⟩) 8 cp6) :: t15 :: t16 :: t17 :: t18 :: t19 :: (.int .i64 0) :: t21 :: t22 :: t23 :: t24 :: t25 :: t26 :: t27 :: t28 :: t29 :: t30 :: t31 :: t32 :: t33 :: t34 :: t35 :: t36 :: t37 :: t38 :: t39 :: t40 :: t41 :: t42 :: t43 :: t44 :: t45 :: t46 :: t47 :: t48 :: t49 :: t50 :: t51 :: t52 :: t53 :: t54 :: t55 :: t56 :: t57 :: t58 :: t59 :: t60 :: t61 :: t62 :: t63 :: t64 :: t65 :: t66 :: t67 :: t68 :: t69 :: t70 :: t71 :: t72 :: t73 :: t74 :: t75 :: t76 :: t77 :: t78 :: t79 :: t80 :: t81 :: t82 :: t83 :: t84 :: t85 :: t86 :: t87 :: t88 :: t89 :: t90 :: t91 :: t92 :: t93 :: t94 :: t95 :: t96 :: t97 :: t98 :: t99 :: t100 :: t101 :: t102 :: t103 :: t104 :: t105 :: t106 :: t107 :: t108 :: t109 :: t110 :: t111 :: t112 :: t113 :: t114 :: t115 :: t116 :: t117 :: t118 :: t119 :: t120 :: t121 :: t122 :: t123 :: t124 :: t125 :: t126 :: t127 :: t128 :: t129 :: t130 :: t131 :: t132 :: t133 :: t134 :: t135 :: t136 :: t137 :: t138 :: t139 :: t140 :: t141 :: t142 :: t143 :: t144 :: t145 :: t146 :: t147 :: t148 :: t149 :: t150 :: t151 :: t152 :: t153 :: t154 :: t155 :: t156 :: t157 :: t158 :: t159 :: t160 :: t161 :: t162 :: t163 :: t164 :: t165 :: t166 :: t167 :: t168 :: t169 :: t170 :: t171 :: t172 :: t173 :: t174 :: t175 :: t176 :: t177 :: t178 :: t179 :: t180 :: t181 :: t182 :: t183 :: t184 :: t185 :: t186 :: t187 :: t188 :: t189 :: t190 :: t191 :: t192 :: t193 :: t194 :: t195 :: t196 :: t197 :: t198 :: t199 :: t200 :: t201 :: t202 :: t203 :: t204 :: t205 :: t206 :: t207 :: t208 :: t209 :: t210 :: t211 :: t212 :: t213 :: t214 :: t215 :: t216 :: t217 :: t218 :: t219 :: t220 :: t221 :: t222 :: t223 :: t224 :: t225 :: t226 :: t227 :: t228 :: t229 :: t230 :: t231 :: t232 :: t233 :: t234 :: t235 :: t236 :: t237 :: t238 :: t239 :: t240 :: t241 :: t242 :: t243 :: t244 :: t245 :: t246 :: t247 :: t248 :: t249 :: t250 :: t251 :: t252 :: t253 :: t254 :: t255 :: t256 :: t257 :: t258 :: t259 :: t260 :: t261 :: t262 :: t263 :: t264 :: t265 :: t266 :: t267 :: t268 :: t269 :: t270 :: t271 :: t272 :: t273 :: t274 :: t275 :: t276 :: t277 :: t278 :: t279 :: t280 :: t281 :: []), []⟩ wx := by
  unfold addsBody
  conv => arg 2; arg 1; whnf
  go_loopw [20] (fun i w' => AdInv s r H wx i w') (fun i _ => 8 - (intOf i).toNat)
  case atStart => exact ⟨0, by omega, rfl, HHR.out, grownBy_refl _ _⟩
  case round =>
    clear HHR
    obtain ⟨q, hq, rfl, hrow, hgr⟩ := hrel
    by_cases hlt4 : q < 8
    · obtain ⟨x, hx⟩ : ∃ x, s.list.getD q 0 = x := ⟨_, rfl⟩
      obtain ⟨y, hy⟩ : ∃ y, r.list.getD q 0 = y := ⟨_, rfl⟩
      have cH : wr.cell? ⟨H, q, none⟩ = some (.int .u32 (wv x)) := by rw [cell_of_row _ _ _ _ _ _ hrow, List.getElem?_toArray, addHL_get s r q hlt4, hx]; rfl
      have cV : wr.cell? ⟨g6, q, none⟩ = some (.int .u32 (wv y)) := hgr.cell (HV.out q _ (by rw [St.cells_list, List.getElem?_map, List.getElem?_eq_getElem (by rw [St.list_length]; exact hlt4), ← hy]; simp [wV, List.getD, List.getElem?_eq_getElem (show q < r.list.length by rw [St.list_length]; exact hlt4)])) (fun e => hgH (Option.some.inj e))
      have zH : wr.frozen? ⟨H, q, none⟩ = false := frozen_of_row _ _ _ _ _ hrow
      have HSET : Hid ((addHL s r q).set q (wV (x + y)) = addHL s r (q + 1)) := Lib.hid (by rw [← hx, ← hy]; exact addHL_set s r q hlt4)
      have HROWS := Lib.hid hrow
      have HGS := Lib.hid hgr
      have p0 : 0 ≤ (q : Int) := by omega
      have q0 : (q : Int) < 8 := by omega
      clear hrow hgr hx hy
      go_wp2_with fail
      go_still_tail 12, (by kernel_rfl)
      change wpList _ _ _ _ _ (World.drew _)
      go_wp2_with fail
      go_roundw
      case rel =>
        obtain ⟨t1, t2⟩ := store_step HROWS.out HGS.out q (.int .u32 (wv (x + y))) _ HSET.out
        exact ⟨q + 1, by omega, by go_num, t1, t2⟩
      case measure => simp [intOf]; omega
    · have hq8 : q = 8 := by omega
      subst hq8
      have HX := Lib.hid (And.intro hrow hgr)
      have hge : ¬ ((8 : Nat) : Int) < 8 := by omega
      clear hrow hgr
      go_wp2_with fail
      all_goals (first | exact HX | exact Lib.hid HX.out.2)
end Go.Proofs.YtckkcpplanfmhaaGreatDoor.Sha
