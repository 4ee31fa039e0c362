/-
  The reference's block: its third loop (the 64 rounds), a declaration of its own.
-/
import Derived.Test.YteiabaddmclmlaaDoorDRefL
namespace Go.Proofs.YteiabaddmclmlaaDoor
open Go Go.RowKit Go.Shelf
set_option maxHeartbeats 8000000 in
set_option maxRecDepth 100000 in
theorem rounds_loop (s : Dg.St) (blk : List UInt8) (HLW : Hid ((Dg.W blk).length = 64)) (g k cap gk gl0 cl0 : Nat) (hk64g : ¬ k < 64) (w6 : World)
    (HK6 : Hid (IR w6 gk Dg.K)) (HW6 : Hid (IR w6 g (Dg.W blk))) (HL6 : Hid (IR w6 gl0 s.list)) (c0 c1 c2 c3 c4 c5 c6 c8 c9 c10 c11 c12 c13 c14 c18 c19 c20 c21 c22 c23 c24 c25 c26 c27 c28 c29 c30 c31 c32 c33 c34 c35 c36 c37 c38 c39 c40 c41 c42 c43 c44 c45 c46 c47 c48 c49 c50 c51 c52 c53 c54 c55 c56 c57 c58 c59 c60 c61 c62 c63 c64 c65 c66 c67 c68 c69 c70 c71 c72 c73 c74 c75 c76 c77 c78 c79 c80 c81 c82 c83 c84 c85 c86 c87 c88 c89 c90 c91 c92 c93 c94 c95 c96 c97 c98 c99 c100 c101 c102 c103 c104 c105 c106 c107 c108 c109 c110 c111 c112 c113 c114 c115 c116 c117 c118 c119 c120 c121 c122 c123 c124 c125 c126 c127 c128 c129 c130 c131 c132 c133 c134 c135 c136 c137 c138 c139 c140 c141 c142 c143 c144 c145 c146 c147 c148 c149 c150 c151 c152 c153 c154 c155 c156 c157 c158 c159 c160 c161 c162 c163 c164 c165 c166 c167 c168 c169 c170 c171 c172 c173 c174 c175 c176 c177 c178 c179 c180 c181 c182 c183 c184 c185 c186 c187 c188 c189 c190 c191 c192 c193 c194 c195 c196 c197 c198 c199 c200 c201 c202 c203 c204 c205 c206 c207 c208 c209 c210 c211 c212 c213 c214 c215 c216 c217 c218 c219 c220 c221 c222 c223 c224 c225 c226 c227 c228 c229 c230 c231 c232 c233 c234 c235 c236 c237 c238 c239 c240 c241 c242 c243 c244 c245 c246 c247 c248 c249 c250 c251 c252 : Value) (Q0 : Exit → Act → World → Prop)
    (hexit : ∀ a' w'', RX (fun us gl cl => (List.toArray (c0 :: c1 :: c2 :: c3 :: c4 :: c5 :: c6 :: (.slice (some ⟨g, 0, none⟩) k cap) :: c8 :: c9 :: c10 :: c11 :: c12 :: c13 :: c14 :: (.slice (some ⟨gl, 0, none⟩) 8 cl) :: (.slice (some ⟨gk, 0, none⟩) 64 64) :: us 17 :: us 18 :: us 19 :: us 20 :: c21 :: c22 :: c23 :: c24 :: c25 :: c26 :: c27 :: c28 :: c29 :: c30 :: c31 :: c32 :: c33 :: c34 :: c35 :: c36 :: c37 :: c38 :: c39 :: c40 :: c41 :: c42 :: c43 :: c44 :: c45 :: c46 :: c47 :: c48 :: c49 :: c50 :: c51 :: c52 :: c53 :: c54 :: c55 :: c56 :: c57 :: c58 :: c59 :: c60 :: c61 :: c62 :: c63 :: c64 :: c65 :: c66 :: c67 :: c68 :: c69 :: c70 :: c71 :: c72 :: c73 :: c74 :: c75 :: c76 :: c77 :: c78 :: c79 :: c80 :: c81 :: c82 :: c83 :: c84 :: c85 :: c86 :: c87 :: c88 :: c89 :: c90 :: c91 :: c92 :: c93 :: c94 :: c95 :: c96 :: c97 :: c98 :: c99 :: c100 :: c101 :: c102 :: c103 :: c104 :: c105 :: c106 :: c107 :: c108 :: c109 :: c110 :: c111 :: c112 :: c113 :: c114 :: c115 :: us 116 :: us 117 :: us 118 :: us 119 :: us 120 :: us 121 :: us 122 :: us 123 :: us 124 :: us 125 :: us 126 :: us 127 :: us 128 :: us 129 :: us 130 :: us 131 :: us 132 :: us 133 :: us 134 :: us 135 :: us 136 :: us 137 :: us 138 :: us 139 :: us 140 :: us 141 :: us 142 :: us 143 :: us 144 :: us 145 :: us 146 :: us 147 :: us 148 :: us 149 :: us 150 :: us 151 :: us 152 :: us 153 :: us 154 :: us 155 :: us 156 :: us 157 :: us 158 :: us 159 :: us 160 :: us 161 :: us 162 :: us 163 :: us 164 :: us 165 :: us 166 :: us 167 :: us 168 :: us 169 :: us 170 :: us 171 :: us 172 :: us 173 :: us 174 :: us 175 :: us 176 :: us 177 :: us 178 :: us 179 :: us 180 :: us 181 :: us 182 :: us 183 :: us 184 :: us 185 :: us 186 :: us 187 :: us 188 :: us 189 :: us 190 :: us 191 :: us 192 :: us 193 :: us 194 :: us 195 :: us 196 :: us 197 :: us 198 :: us 199 :: us 200 :: us 201 :: us 202 :: us 203 :: us 204 :: us 205 :: us 206 :: us 207 :: us 208 :: us 209 :: us 210 :: us 211 :: us 212 :: us 213 :: us 214 :: us 215 :: us 216 :: us 217 :: us 218 :: us 219 :: us 220 :: us 221 :: us 222 :: us 223 :: us 224 :: us 225 :: us 226 :: us 227 :: us 228 :: us 229 :: us 230 :: us 231 :: us 232 :: us 233 :: us 234 :: c235 :: c236 :: c237 :: c238 :: c239 :: c240 :: c241 :: c242 :: c243 :: c244 :: c245 :: c246 :: c247 :: c248 :: c249 :: c250 :: c251 :: c252 :: []))) s blk w6 a' w'' → Q0 (.exit 4) a' w'') :
    Code.wp Tryd.prog (.loop rbody3) Q0 ⟨(List.toArray (c0 :: c1 :: c2 :: c3 :: c4 :: c5 :: c6 :: (.slice (some ⟨g, 0, none⟩) k cap) :: c8 :: c9 :: c10 :: c11 :: c12 :: c13 :: c14 :: (.slice (some ⟨gl0, 0, none⟩) 8 cl0) :: (.slice (some ⟨gk, 0, none⟩) 64 64) :: (.int .i64 0) :: c18 :: c19 :: c20 :: c21 :: c22 :: c23 :: c24 :: c25 :: c26 :: c27 :: c28 :: c29 :: c30 :: c31 :: c32 :: c33 :: c34 :: c35 :: c36 :: c37 :: c38 :: c39 :: c40 :: c41 :: c42 :: c43 :: c44 :: c45 :: c46 :: c47 :: c48 :: c49 :: c50 :: c51 :: c52 :: c53 :: c54 :: c55 :: c56 :: c57 :: c58 :: c59 :: c60 :: c61 :: c62 :: c63 :: c64 :: c65 :: c66 :: c67 :: c68 :: c69 :: c70 :: c71 :: c72 :: c73 :: c74 :: c75 :: c76 :: c77 :: c78 :: c79 :: c80 :: c81 :: c82 :: c83 :: c84 :: c85 :: c86 :: c87 :: c88 :: c89 :: c90 :: c91 :: c92 :: c93 :: c94 :: c95 :: c96 :: c97 :: c98 :: c99 :: c100 :: c101 :: c102 :: c103 :: c104 :: c105 :: c106 :: c107 :: c108 :: c109 :: c110 :: c111 :: c112 :: c113 :: c114 :: c115 :: c116 :: c117 :: c118 :: c119 :: c120 :: c121 :: c122 :: c123 :: c124 :: c125 :: c126 :: c127 :: c128 :: c129 :: c130 :: c131 :: c132 :: c133 :: c134 :: c135 :: c136 :: c137 :: c138 :: c139 :: c140 :: c141 :: c142 :: c143 :: c144 :: c145 :: c146 :: c147 :: c148 :: c149 :: c150 :: c151 :: c152 :: c153 :: c154 :: c155 :: c156 :: c157 :: c158 :: c159 :: c160 :: c161 :: c162 :: c163 :: c164 :: c165 :: c166 :: c167 :: c168 :: c169 :: c170 :: c171 :: c172 :: c173 :: c174 :: c175 :: c176 :: c177 :: c178 :: c179 :: c180 :: c181 :: c182 :: c183 :: c184 :: c185 :: c186 :: c187 :: c188 :: c189 :: c190 :: c191 :: c192 :: c193 :: c194 :: c195 :: c196 :: c197 :: c198 :: c199 :: c200 :: c201 :: c202 :: c203 :: c204 :: c205 :: c206 :: c207 :: c208 :: c209 :: c210 :: c211 :: c212 :: c213 :: c214 :: c215 :: c216 :: c217 :: c218 :: c219 :: c220 :: c221 :: c222 :: c223 :: c224 :: c225 :: c226 :: c227 :: c228 :: c229 :: c230 :: c231 :: c232 :: c233 :: c234 :: c235 :: c236 :: c237 :: c238 :: c239 :: c240 :: c241 :: c242 :: c243 :: c244 :: c245 :: c246 :: c247 :: c248 :: c249 :: c250 :: c251 :: c252 :: [])), []⟩ w6 := by
  conv => arg 2; arg 1; whnf
  go_loopw [15, 17] (fun v i wr => ∃ (k gl cl : Nat), v = .slice (some ⟨gl, 0, none⟩) 8 cl ∧ i = .int .i64 k ∧ k ≤ 64 ∧ Hid (IR wr gl (Dg.rnds (Dg.W blk) s k).list) ∧ Hid (Below w6.heap.size w6 wr)) (fun _ i _ => 64 - (intOf i).toNat)
  case atStart => exact ⟨0, gl0, cl0, rfl, rfl, by omega, HL6, Below.refl _ _⟩
  case round =>
    obtain ⟨i, gl, cl, rfl, rfl, hi, hl, hb⟩ := hrel
    by_cases hlt : i < 64
    · have hlt' : (i : Int) < 64 := by omega
      have HN := Lib.hid (show Dg.rnds (Dg.W blk) s (i + 1) = Dg.rnd (Dg.K.getD i 0) ((Dg.W blk).getD i 0) (Dg.rnds (Dg.W blk) s i) from rfl)
      have hkl : Dg.K.length = 64 := rfl
      have cK : wr.cell? ⟨gk, i, none⟩ = some (.int .i64 ((Dg.K.getD i 0).toNat : Int)) := (HK6.out.below hb.out).cell i (by omega)
      have cW : wr.cell? ⟨g, i, none⟩ = some (.int .i64 (((Dg.W blk).getD i 0).toNat : Int)) := (HW6.out.below hb.out).cell i (by rw [HLW.out]; exact hlt)
      obtain ⟨S, hS⟩ : ∃ S, Dg.rnds (Dg.W blk) s i = S := ⟨_, rfl⟩
      rw [hS] at HN hl
      obtain ⟨K, hK⟩ : ∃ K, Dg.K.getD i 0 = K := ⟨_, rfl⟩
      rw [hK] at cK HN
      obtain ⟨V, hV⟩ : ∃ V, (Dg.W blk).getD i 0 = V := ⟨_, rfl⟩
      rw [hV] at cW HN
      obtain ⟨A, B, C, D, E, F, G, H⟩ := S
      have c0 : wr.cell? ⟨gl, 0, none⟩ = some (.int .i64 (A.toNat : Int)) := hl.out.cell 0 (by simp [Dg.St.list])
      have c1 : wr.cell? ⟨gl, 1, none⟩ = some (.int .i64 (B.toNat : Int)) := hl.out.cell 1 (by simp [Dg.St.list])
      have c2 : wr.cell? ⟨gl, 2, none⟩ = some (.int .i64 (C.toNat : Int)) := hl.out.cell 2 (by simp [Dg.St.list])
      have c3 : wr.cell? ⟨gl, 3, none⟩ = some (.int .i64 (D.toNat : Int)) := hl.out.cell 3 (by simp [Dg.St.list])
      have c4 : wr.cell? ⟨gl, 4, none⟩ = some (.int .i64 (E.toNat : Int)) := hl.out.cell 4 (by simp [Dg.St.list])
      have c5 : wr.cell? ⟨gl, 5, none⟩ = some (.int .i64 (F.toNat : Int)) := hl.out.cell 5 (by simp [Dg.St.list])
      have c6 : wr.cell? ⟨gl, 6, none⟩ = some (.int .i64 (G.toNat : Int)) := hl.out.cell 6 (by simp [Dg.St.list])
      have c7 : wr.cell? ⟨gl, 7, none⟩ = some (.int .i64 (H.toNat : Int)) := hl.out.cell 7 (by simp [Dg.St.list])
      have lA := A.isLt
      have lB := B.isLt
      have lC := C.isLt
      have lD := D.isLt
      have lE := E.isLt
      have lF := F.isLt
      have lG := G.isLt
      have lH := H.isLt
      have lK := K.isLt
      have lV := V.isLt
      have hno := not_said E
      obtain ⟨NE, hNE⟩ : ∃ x, ~~~ E = x := ⟨_, rfl⟩
      rw [hNE] at hno
      have lNE := NE.isLt
      have wno : IntKind.i64.wrap ((4294967295 : Int) - (E.toNat : Int)) = (NE.toNat : Int) := by rw [IntWalk.i64_in _ (by omega)]; exact hno
      obtain ⟨T, hT⟩ : ∃ x, Dg.tOf K V ⟨A, B, C, D, E, F, G, H⟩ = x := ⟨_, rfl⟩
      have hT0 : H + (Dg.ror E 6 ^^^ Dg.ror E 11 ^^^ Dg.ror E 25) + ((E &&& F) ^^^ (~~~ E &&& G)) + K + V = T := hT
      obtain ⟨E6, hE6⟩ : ∃ r, Dg.ror E 6 = r := ⟨_, rfl⟩
      obtain ⟨E11, hE11⟩ : ∃ r, Dg.ror E 11 = r := ⟨_, rfl⟩
      obtain ⟨E25, hE25⟩ : ∃ r, Dg.ror E 25 = r := ⟨_, rfl⟩
      rw [hE6, hE11, hE25, hNE] at hT0
      have x1 := v_xorR E6 E11
      obtain ⟨X1, hX1⟩ : ∃ r, E6 ^^^ E11 = r := ⟨_, rfl⟩
      rw [hX1] at x1 hT0
      have x2 := v_xorR X1 E25
      obtain ⟨X2, hX2⟩ : ∃ r, X1 ^^^ E25 = r := ⟨_, rfl⟩
      rw [hX2] at x2 hT0
      have x3 := Dg.v_and E F
      obtain ⟨X3, hX3⟩ : ∃ r, E &&& F = r := ⟨_, rfl⟩
      rw [hX3] at x3 hT0
      have x4 := Dg.v_and NE G
      obtain ⟨X4, hX4⟩ : ∃ r, NE &&& G = r := ⟨_, rfl⟩
      rw [hX4] at x4 hT0
      have x5 := v_xorR X3 X4
      obtain ⟨X5, hX5⟩ : ∃ r, X3 ^^^ X4 = r := ⟨_, rfl⟩
      rw [hX5] at x5 hT0
      have lX2 := X2.isLt
      have lX5 := X5.isLt
      have hTn : (H.toNat + X2.toNat + X5.toNat + K.toNat + V.toNat) % 4294967296 = T.toNat := by rw [← hT0]; simp only [BitVec.toNat_add]; omega
      obtain ⟨t1, ht1⟩ : ∃ x, H.toNat + X2.toNat = x := ⟨_, rfl⟩
      obtain ⟨t2, ht2⟩ : ∃ x, t1 + X5.toNat = x := ⟨_, rfl⟩
      obtain ⟨t3, ht3⟩ : ∃ x, t2 + K.toNat = x := ⟨_, rfl⟩
      obtain ⟨t4, ht4⟩ : ∃ x, t3 + V.toNat = x := ⟨_, rfl⟩
      have s1 : (H.toNat : Int) + (X2.toNat : Int) = (t1 : Int) := by omega
      have s2 : (t1 : Int) + (X5.toNat : Int) = (t2 : Int) := by omega
      have s3 : (t2 : Int) + (K.toNat : Int) = (t3 : Int) := by omega
      have s4 : (t3 : Int) + (V.toNat : Int) = (t4 : Int) := by omega
      have r1 : IntKind.i64.wrap ((H.toNat : Int) + (X2.toNat : Int)) = (t1 : Int) := by rw [IntWalk.i64_in _ (by omega)]; omega
      have r2 : IntKind.i64.wrap ((t1 : Int) + (X5.toNat : Int)) = (t2 : Int) := by rw [IntWalk.i64_in _ (by omega)]; omega
      have r3 : IntKind.i64.wrap ((t2 : Int) + (K.toNat : Int)) = (t3 : Int) := by rw [IntWalk.i64_in _ (by omega)]; omega
      have r4 : IntKind.i64.wrap ((t3 : Int) + (V.toNat : Int)) = (t4 : Int) := by rw [IntWalk.i64_in _ (by omega)]; omega
      have q1 : IntKind.i64.wrap (t1 : Int) = (t1 : Int) := IntWalk.i64_in _ (by omega)
      have q2 : IntKind.i64.wrap (t2 : Int) = (t2 : Int) := IntWalk.i64_in _ (by omega)
      have q3 : IntKind.i64.wrap (t3 : Int) = (t3 : Int) := IntWalk.i64_in _ (by omega)
      have q4 : IntKind.i64.wrap (t4 : Int) = (t4 : Int) := IntWalk.i64_in _ (by omega)
      have CT := Lib.hid (fun (d : Nat) (w1 : World) => rword_quiet (t4 : Int) t4 T.toNat rfl (by omega) (by omega) d w1)
      have D6 := Lib.hid (fun (d : Nat) (w1 : World) => rturn_quietR E 6 6 rfl (by decide) (by decide) E6 hE6 d w1)
      have D11 := Lib.hid (fun (d : Nat) (w1 : World) => rturn_quietR E 11 11 rfl (by decide) (by decide) E11 hE11 d w1)
      have D25 := Lib.hid (fun (d : Nat) (w1 : World) => rturn_quietR E 25 25 rfl (by decide) (by decide) E25 hE25 d w1)
      have HT := Lib.hid hT
      obtain ⟨U, hU⟩ : ∃ x, Dg.uOf ⟨A, B, C, D, E, F, G, H⟩ = x := ⟨_, rfl⟩
      have hU0 : (Dg.ror A 2 ^^^ Dg.ror A 13 ^^^ Dg.ror A 22) + ((A &&& B) ^^^ (A &&& C) ^^^ (B &&& C)) = U := hU
      obtain ⟨A2, hA2⟩ : ∃ r, Dg.ror A 2 = r := ⟨_, rfl⟩
      obtain ⟨A13, hA13⟩ : ∃ r, Dg.ror A 13 = r := ⟨_, rfl⟩
      obtain ⟨A22, hA22⟩ : ∃ r, Dg.ror A 22 = r := ⟨_, rfl⟩
      rw [hA2, hA13, hA22] at hU0
      have y1 := v_xorR A2 A13
      obtain ⟨Y1, hY1⟩ : ∃ r, A2 ^^^ A13 = r := ⟨_, rfl⟩
      rw [hY1] at y1 hU0
      have y2 := v_xorR Y1 A22
      obtain ⟨Y2, hY2⟩ : ∃ r, Y1 ^^^ A22 = r := ⟨_, rfl⟩
      rw [hY2] at y2 hU0
      have y3 := Dg.v_and A B
      obtain ⟨Y3, hY3⟩ : ∃ r, A &&& B = r := ⟨_, rfl⟩
      rw [hY3] at y3 hU0
      have y4 := Dg.v_and A C
      obtain ⟨Y4, hY4⟩ : ∃ r, A &&& C = r := ⟨_, rfl⟩
      rw [hY4] at y4 hU0
      have y5 := Dg.v_and B C
      obtain ⟨Y5, hY5⟩ : ∃ r, B &&& C = r := ⟨_, rfl⟩
      rw [hY5] at y5 hU0
      have y6 := v_xorR Y3 Y4
      obtain ⟨Y6, hY6⟩ : ∃ r, Y3 ^^^ Y4 = r := ⟨_, rfl⟩
      rw [hY6] at y6 hU0
      have y7 := v_xorR Y6 Y5
      obtain ⟨Y7, hY7⟩ : ∃ r, Y6 ^^^ Y5 = r := ⟨_, rfl⟩
      rw [hY7] at y7 hU0
      have lY2 := Y2.isLt
      have lY7 := Y7.isLt
      have hUn : (Y2.toNat + Y7.toNat) % 4294967296 = U.toNat := by rw [← hU0, BitVec.toNat_add]
      obtain ⟨u1, hu1⟩ : ∃ x, Y2.toNat + Y7.toNat = x := ⟨_, rfl⟩
      have z1 : (Y2.toNat : Int) + (Y7.toNat : Int) = (u1 : Int) := by omega
      have z2 : IntKind.i64.wrap ((Y2.toNat : Int) + (Y7.toNat : Int)) = (u1 : Int) := by rw [IntWalk.i64_in _ (by omega)]; omega
      have z3 : IntKind.i64.wrap (u1 : Int) = (u1 : Int) := IntWalk.i64_in _ (by omega)
      have CU := Lib.hid (fun (d : Nat) (w1 : World) => rword_quiet (u1 : Int) u1 U.toNat rfl (by omega) (by omega) d w1)
      have F2 := Lib.hid (fun (d : Nat) (w1 : World) => rturn_quietR A 2 2 rfl (by decide) (by decide) A2 hA2 d w1)
      have F13 := Lib.hid (fun (d : Nat) (w1 : World) => rturn_quietR A 13 13 rfl (by decide) (by decide) A13 hA13 d w1)
      have F22 := Lib.hid (fun (d : Nat) (w1 : World) => rturn_quietR A 22 22 rfl (by decide) (by decide) A22 hA22 d w1)
      have HU := Lib.hid hU
      have lT := T.isLt
      have lU := U.isLt
      obtain ⟨P, hP⟩ : ∃ x, T + U = x := ⟨_, rfl⟩
      obtain ⟨R, hR⟩ : ∃ x, D + T = x := ⟨_, rfl⟩
      have hPn : (T.toNat + U.toNat) % 4294967296 = P.toNat := by rw [← hP, BitVec.toNat_add]
      have hRn : (D.toNat + T.toNat) % 4294967296 = R.toNat := by rw [← hR, BitVec.toNat_add]
      obtain ⟨p1, hp1⟩ : ∃ x, T.toNat + U.toNat = x := ⟨_, rfl⟩
      obtain ⟨r1, hr1⟩ : ∃ x, D.toNat + T.toNat = x := ⟨_, rfl⟩
      have z4 : (T.toNat : Int) + (U.toNat : Int) = (p1 : Int) := by omega
      have z5 : IntKind.i64.wrap ((T.toNat : Int) + (U.toNat : Int)) = (p1 : Int) := by rw [IntWalk.i64_in _ (by omega)]; omega
      have z6 : IntKind.i64.wrap (p1 : Int) = (p1 : Int) := IntWalk.i64_in _ (by omega)
      have z7 : (D.toNat : Int) + (T.toNat : Int) = (r1 : Int) := by omega
      have z8 : IntKind.i64.wrap ((D.toNat : Int) + (T.toNat : Int)) = (r1 : Int) := by rw [IntWalk.i64_in _ (by omega)]; omega
      have z9 : IntKind.i64.wrap (r1 : Int) = (r1 : Int) := IntWalk.i64_in _ (by omega)
      have CP := Lib.hid (fun (w1 : World) => rword_int (p1 : Int) p1 P.toNat rfl (by omega) (by omega) w1)
      have CR := Lib.hid (fun (w1 : World) => rword_int (r1 : Int) r1 R.toNat rfl (by omega) (by omega) w1)
      have hnew : Dg.rnds (Dg.W blk) s (i + 1) = ⟨P, A, B, C, R, E, F, G⟩ := by rw [HN.out, ← hP, ← hR, ← HT.out, ← HU.out]; rfl
      have HNew := Lib.hid (show ∀ Pr : Dg.St → Prop, Pr ⟨P, A, B, C, R, E, F, G⟩ → Pr (Dg.rnds (Dg.W blk) s (i + 1)) from fun Pr h => by rw [hnew]; exact h)
      clear hnew hU hU0 hA2 hA13 hA22 hY1 hY2 hY3 hY4 hY5 hY6 hY7 hUn hu1 hP hR hPn hRn hp1 hr1 HN HT HU
      have hik : (i : Int) < (k : Int) := by omega
      clear hS hK hV hT hT0 hE6 hE11 hE25 hX1 hX2 hX3 hX4 hX5 hTn ht1 ht2 ht3 ht4 hkl
      go_wp2_with fail
      go_quiet (first | (go_at_call 74; (first | with_reducible exact D6.out _ _ | with_reducible exact D11.out _ _ | with_reducible exact D25.out _ _)) | (go_at_call 75; with_reducible exact CT.out _ _) | fail)
      obtain ⟨w7, hw7⟩ : ∃ x, wr.drewN nq = x := ⟨_, rfl⟩
      have hb7 : Hid (Below w6.heap.size w6 w7) := by rw [← hw7]; exact below_drewN hb.out nq
      have hc7 : (w7.cell? ⟨gl, 0, none⟩ = some (.int .i64 (A.toNat : Int)) ∧ w7.cell? ⟨gl, 1, none⟩ = some (.int .i64 (B.toNat : Int)) ∧ w7.cell? ⟨gl, 2, none⟩ = some (.int .i64 (C.toNat : Int)) ∧ w7.cell? ⟨gl, 3, none⟩ = some (.int .i64 (D.toNat : Int)) ∧ w7.cell? ⟨gl, 4, none⟩ = some (.int .i64 (E.toNat : Int)) ∧ w7.cell? ⟨gl, 5, none⟩ = some (.int .i64 (F.toNat : Int)) ∧ w7.cell? ⟨gl, 6, none⟩ = some (.int .i64 (G.toNat : Int))) := by rw [← hw7]; exact ⟨c0, c1, c2, c3, c4, c5, c6⟩
      rw [hw7]
      clear hw7 c0 c1 c2 c3 c4 c5 c6 c7 cK cW hb
      obtain ⟨c0, c1, c2, c3, c4, c5, c6⟩ := hc7
      go_wp2_with fail
      go_quiet (first | (go_at_call 74; (first | with_reducible exact F2.out _ _ | with_reducible exact F13.out _ _ | with_reducible exact F22.out _ _)) | (go_at_call 75; with_reducible exact CU.out _ _) | fail)
      clear D6 D11 D25 F2 F13 F22 CT CU
      obtain ⟨w8, hw8⟩ : ∃ x, w7.drewN nq = x := ⟨_, rfl⟩
      have hb8 : Hid (Below w6.heap.size w6 w8) := by rw [← hw8]; exact below_drewN hb7.out nq
      have hc8 : (w8.cell? ⟨gl, 0, none⟩ = some (.int .i64 (A.toNat : Int)) ∧ w8.cell? ⟨gl, 1, none⟩ = some (.int .i64 (B.toNat : Int)) ∧ w8.cell? ⟨gl, 2, none⟩ = some (.int .i64 (C.toNat : Int)) ∧ w8.cell? ⟨gl, 3, none⟩ = some (.int .i64 (D.toNat : Int)) ∧ w8.cell? ⟨gl, 4, none⟩ = some (.int .i64 (E.toNat : Int)) ∧ w8.cell? ⟨gl, 5, none⟩ = some (.int .i64 (F.toNat : Int)) ∧ w8.cell? ⟨gl, 6, none⟩ = some (.int .i64 (G.toNat : Int))) := by rw [← hw8]; exact ⟨c0, c1, c2, c3, c4, c5, c6⟩
      rw [hw8]
      clear hw8 c0 c1 c2 c3 c4 c5 c6 hb7
      obtain ⟨c0, c1, c2, c3, c4, c5, c6⟩ := hc8
      go_wp2_with fail
      refine wp_region_still_tail 28 (by kernel_rfl) (by kernel_rfl) ?_
      generalize hW1 : ({ w8 with drawn := w8.drawn + 1 } : World) = W1
      have hb9 : Hid (Below w6.heap.size w6 W1) := by rw [← hW1]; exact below_drew hb8.out
      have hc9 : (W1.cell? ⟨gl, 0, none⟩ = some (.int .i64 (A.toNat : Int)) ∧ W1.cell? ⟨gl, 1, none⟩ = some (.int .i64 (B.toNat : Int)) ∧ W1.cell? ⟨gl, 2, none⟩ = some (.int .i64 (C.toNat : Int)) ∧ W1.cell? ⟨gl, 3, none⟩ = some (.int .i64 (D.toNat : Int)) ∧ W1.cell? ⟨gl, 4, none⟩ = some (.int .i64 (E.toNat : Int)) ∧ W1.cell? ⟨gl, 5, none⟩ = some (.int .i64 (F.toNat : Int)) ∧ W1.cell? ⟨gl, 6, none⟩ = some (.int .i64 (G.toNat : Int))) := by rw [← hW1]; exact ⟨c0, c1, c2, c3, c4, c5, c6⟩
      clear hW1 c0 c1 c2 c3 c4 c5 c6 hb8
      obtain ⟨c0, c1, c2, c3, c4, c5, c6⟩ := hc9
      simp only [List.take_succ_cons, List.take_zero, List.drop_succ_cons, List.drop_zero]
      repeat still_step
      still_call (CP.out _)
      repeat still_step
      still_call (CR.out _)
      repeat still_step
      refine wpStill_nil ?_
      have HR := Lib.hid (HNew.out (fun S => IR (W1.alloc (.cells (iv S.list).toArray 3)) W1.heap.size S.list) (IR.made W1 _ _))
      have HR' : Hid (IR (W1.alloc (.cells #[.int .i64 P.toNat, .int .i64 A.toNat, .int .i64 B.toNat, .int .i64 C.toNat, .int .i64 R.toNat, .int .i64 E.toNat, .int .i64 F.toNat, .int .i64 G.toNat] 3)) W1.heap.size (Dg.rnds (Dg.W blk) s (i + 1)).list) := HNew.out (fun S => IR (W1.alloc (.cells #[.int .i64 P.toNat, .int .i64 A.toNat, .int .i64 B.toNat, .int .i64 C.toNat, .int .i64 R.toNat, .int .i64 E.toNat, .int .i64 F.toNat, .int .i64 G.toNat] 3)) W1.heap.size S.list) (IR.made W1 (Dg.St.list ⟨P, A, B, C, R, E, F, G⟩) 3)
      have HB' := Lib.hid (fun o : Obj => below_alloc hb9.out (Nat.le_refl _) o)
      clear HR c0 c1 c2 c3 c4 c5 c6
      go_wp2_with fail
      go_roundw
      case rel => exact ⟨i + 1, W1.heap.size, 8, rfl, by first | rfl | go_num, by omega, HR', HB'.out _⟩
      case measure => simp [intOf]; omega
    · have hge' : ¬ (i : Int) < 64 := by omega
      have hi64 : i = 64 := by omega
      rw [hi64] at hl
      have HE := Lib.hid (show IR wr gl (Dg.rnds (Dg.W blk) s 64).list ∧ Below w6.heap.size w6 wr from ⟨hl.out, hb.out⟩)
      clear hi64 hl hb HK6 HW6 HL6
      go_wp2_with fail
      exact ⟨gl, cl, rfl, HE.out.1, HE.out.2⟩
end Go.Proofs.YteiabaddmclmlaaDoor
