/-
  Parts of the proof: Rst7, Rst3b, Rst10, Rst11.
-/
import Derived.Test.YtglohanbpjaieaaGreatBrt31
import Derived.Test.YtglohanbpjaieaaGreatBrt30
import Derived.Test.YtglohanbpjaieaaGreatBrt34
namespace Go.Proofs.YtglohanbpjaieaaGreat
open Go.Proofs Go.RowKit Go.Shelf Go.Maps Go.Deep
set_option maxRecDepth 100000 in
set_option maxHeartbeats 4000000 in
theorem rt9 {n0 n1:Nat} {W0 W:World} {ax:Option Addr} {nx cx:Nat} {Qf:Exit→Act→World→Prop} (h:WrT n0 n1 W0 ax nx) (hn:nx≤maxLen) (hM:Mid n0 n1 W0 W) {c0 c1 c2 c3 c4 c5 c6 c7 c8 c10 c11 c12 c13 c14 c15 c16 c17 c18 c19 c20 c21 c22 c23 c24 c25 c26 c27 c28 c29 c30 c31 c32 c33 c34 c35 c36 c37 c38 c39 c40 c41 c42 c43 c44 c45 c46 c47 c48 c49 c50 c51 c52 c53 c54 c55 c56 c57 c58 c59 c60 c61 c62 c63 c64 c65 c66 c67 c68 c69 c70 c71 c72 c73 c74 c75 c76 c77 c78 c79 c80 c81 c82 c83 c84 c85 c86 c87 c88 c89 c90 c91 c92 c93 c94 c95 c96 c97 c98 c99 c100 c101 c102 c103 c104 c105 c106 c107 c108 c109 c110 c111 c112 c113 c114 c115 c116 c117 c118 c119 c120 c121 c122 c123 c124 c125 c126 c127 c128 c129 c130 c131 c132 c133 c134 c135 c136 c137 c138 c139 c140 c141 c142 c143 c144 c145 c146 c147 c148 c149 c150 c151 c152 c153 c154 c155 c156 c157 c158 c159 c160 c161 c162 c163 c164 c165 c166 c167 c168 c169 c170 c171 c172 c173 c174 c175 c176 c177 c178 c179 c180 c181 c182 c183 c184 c185 c186 c187 c188 c189 c190 c191 c192 c193 c194 c195 c196 c197 c198 c199 c200 c201 c202 c203 c204 c205 c206 c207 c208 c209 c210 c211 c212 c213 c214 c215 c216 c217 c218 c219 c220 c221 c222 c223 c224 c225 c226 c227 c228 c229 c230 c231 c232 c233 c234 c235 c236 c237 c238 c239 c240 c241 c242 c243 c244 c245 c246 c247 c248 c249 c250 c251 c252 c253 c254 c255 c256 c257 c258 c259 c260 c261 c262 c263 c264 c265 c266 c267 c268 c269 c270 c271 c272 c273 c274 c275 c276 c277 c278 c279 c280 c281 c282 c283 c284 c285 c286 c287 c288 c289 c290 c291 c292 c293 c294 c295 c296 c297 c298 c299 c300 c301 c302 c303 c304 c305 c306 c307 c308 c309 c310 c311 c312 c313 c314 c315 c316 c317 c318 c319 c320 c321 c322 c323 c324 c325 c326 c327 c328 c329 c330 c331 c332 c333 c334 c335 c336 c337 c338 c339 c340 c341 c342 c343 c344 c345 c346 c347 c348 c349 c350 c351 c352 c353 c354 c355 c356 c357 c358 c359 c360 c361 c362 c363:Value}
 (K:∀ (d22 d123 d124 d125 d126 d127 d128 d129 d130 d131:Value) (V:World),Mid n0 n1 W0 V→Code.wp Tryz.prog (spine 10 (Tryz.f5.body.getD .skip)) Qf ⟨#[c0,c1,c2,c3,c4,c5,c6,c7,c8,.slice ax nx cx,c10,c11,c12,c13,c14,c15,c16,c17,c18,c19,c20,c21,d22,c23,c24,c25,c26,c27,c28,c29,c30,c31,c32,c33,c34,c35,c36,c37,c38,c39,c40,c41,c42,c43,c44,c45,c46,c47,c48,c49,c50,c51,c52,c53,c54,c55,c56,c57,c58,c59,c60,c61,c62,c63,c64,c65,c66,c67,c68,c69,c70,c71,c72,c73,c74,c75,c76,c77,c78,c79,c80,c81,c82,c83,c84,c85,c86,c87,c88,c89,c90,c91,c92,c93,c94,c95,c96,c97,c98,c99,c100,c101,c102,c103,c104,c105,c106,c107,c108,c109,c110,c111,c112,c113,c114,c115,c116,c117,c118,c119,c120,c121,c122,d123,d124,d125,d126,d127,d128,d129,d130,d131,c132,c133,c134,c135,c136,c137,c138,c139,c140,c141,c142,c143,c144,c145,c146,c147,c148,c149,c150,c151,c152,c153,c154,c155,c156,c157,c158,c159,c160,c161,c162,c163,c164,c165,c166,c167,c168,c169,c170,c171,c172,c173,c174,c175,c176,c177,c178,c179,c180,c181,c182,c183,c184,c185,c186,c187,c188,c189,c190,c191,c192,c193,c194,c195,c196,c197,c198,c199,c200,c201,c202,c203,c204,c205,c206,c207,c208,c209,c210,c211,c212,c213,c214,c215,c216,c217,c218,c219,c220,c221,c222,c223,c224,c225,c226,c227,c228,c229,c230,c231,c232,c233,c234,c235,c236,c237,c238,c239,c240,c241,c242,c243,c244,c245,c246,c247,c248,c249,c250,c251,c252,c253,c254,c255,c256,c257,c258,c259,c260,c261,c262,c263,c264,c265,c266,c267,c268,c269,c270,c271,c272,c273,c274,c275,c276,c277,c278,c279,c280,c281,c282,c283,c284,c285,c286,c287,c288,c289,c290,c291,c292,c293,c294,c295,c296,c297,c298,c299,c300,c301,c302,c303,c304,c305,c306,c307,c308,c309,c310,c311,c312,c313,c314,c315,c316,c317,c318,c319,c320,c321,c322,c323,c324,c325,c326,c327,c328,c329,c330,c331,c332,c333,c334,c335,c336,c337,c338,c339,c340,c341,c342,c343,c344,c345,c346,c347,c348,c349,c350,c351,c352,c353,c354,c355,c356,c357,c358,c359,c360,c361,c362,c363],[]⟩ V) :
 Code.wp Tryz.prog (spine 9 (Tryz.f5.body.getD .skip)) Qf ⟨#[c0,c1,c2,c3,c4,c5,c6,c7,c8,.slice ax nx cx,c10,c11,c12,c13,c14,c15,c16,c17,c18,c19,c20,c21,c22,c23,c24,c25,c26,c27,c28,c29,c30,c31,c32,c33,c34,c35,c36,c37,c38,c39,c40,c41,c42,c43,c44,c45,c46,c47,c48,c49,c50,c51,c52,c53,c54,c55,c56,c57,c58,c59,c60,c61,c62,c63,c64,c65,c66,c67,c68,c69,c70,c71,c72,c73,c74,c75,c76,c77,c78,c79,c80,c81,c82,c83,c84,c85,c86,c87,c88,c89,c90,c91,c92,c93,c94,c95,c96,c97,c98,c99,c100,c101,c102,c103,c104,c105,c106,c107,c108,c109,c110,c111,c112,c113,c114,c115,c116,c117,c118,c119,c120,c121,c122,c123,c124,c125,c126,c127,c128,c129,c130,c131,c132,c133,c134,c135,c136,c137,c138,c139,c140,c141,c142,c143,c144,c145,c146,c147,c148,c149,c150,c151,c152,c153,c154,c155,c156,c157,c158,c159,c160,c161,c162,c163,c164,c165,c166,c167,c168,c169,c170,c171,c172,c173,c174,c175,c176,c177,c178,c179,c180,c181,c182,c183,c184,c185,c186,c187,c188,c189,c190,c191,c192,c193,c194,c195,c196,c197,c198,c199,c200,c201,c202,c203,c204,c205,c206,c207,c208,c209,c210,c211,c212,c213,c214,c215,c216,c217,c218,c219,c220,c221,c222,c223,c224,c225,c226,c227,c228,c229,c230,c231,c232,c233,c234,c235,c236,c237,c238,c239,c240,c241,c242,c243,c244,c245,c246,c247,c248,c249,c250,c251,c252,c253,c254,c255,c256,c257,c258,c259,c260,c261,c262,c263,c264,c265,c266,c267,c268,c269,c270,c271,c272,c273,c274,c275,c276,c277,c278,c279,c280,c281,c282,c283,c284,c285,c286,c287,c288,c289,c290,c291,c292,c293,c294,c295,c296,c297,c298,c299,c300,c301,c302,c303,c304,c305,c306,c307,c308,c309,c310,c311,c312,c313,c314,c315,c316,c317,c318,c319,c320,c321,c322,c323,c324,c325,c326,c327,c328,c329,c330,c331,c332,c333,c334,c335,c336,c337,c338,c339,c340,c341,c342,c343,c344,c345,c346,c347,c348,c349,c350,c351,c352,c353,c354,c355,c356,c357,c358,c359,c360,c361,c362,c363],[]⟩ W:=by
 have HM:=hid hM
 have HH:=hid h
 have hn':(nx:Int)≤9223372036854775807:=by unfold maxLen at *;omega
 conv=>arg 2;whnf
 apply wp_seq_k
 intro Kn hKn
 have HK:=hid (fun d22 d123 d124 d125 d126 d127 d128 d129 d130 d131 V hV=>hKn _ _ (K d22 d123 d124 d125 d126 d127 d128 d129 d130 d131 V hV))
 clear K hM hKn
 by_cases h0:nx = 0
 ·subst h0
  clear h
  go_wp2
  go_loopw [22] (fun v wr=>v = .int .i64 0∧wr = W) (fun _ _=>0)
  case atStart=>exact ⟨rfl,rfl⟩
  case round =>
   obtain ⟨rfl,rfl⟩:=hrel
   go_wp2
   exact HK.out _ _ _ _ _ _ _ _ _ _ _ HM.out
 ·obtain ⟨b,off,rfl,_⟩:=h 0 (by omega)
  clear h
  go_wp2
  go_loopw [22] (fun v wr=>∃ k:Nat,k≤nx∧v = .int .i64 (k:Int)∧Hid (Mid n0 n1 W0 wr)) (fun v _=>nx - (intOf v).toNat)
  case atStart=>exact ⟨0,Nat.zero_le _,rfl,HM⟩
  case round =>
   obtain ⟨k,hk,rfl,hr⟩:=hrel
   by_cases hlt:k < nx
   ·have hlt':(k:Int) < (nx:Int):=by omega
    obtain ⟨b',off',e,hb,⟨z,hz⟩,hf⟩:=HH.out.at hr.out hlt
    cases e
    have Hb:=hid hb
    clear hb
    go_wp2
    go_roundw
    case rel=>exact ⟨k+1,by omega,by go_num,hid (hr.out.set Hb.out _ _)⟩
    case measure=>simp [intOf];omega
   ·obtain rfl:k = nx:=by omega
    go_wp2
    exact HK.out _ _ _ _ _ _ _ _ _ _ _ hr.out
set_option maxRecDepth 100000 in
set_option maxHeartbeats 4000000 in
theorem rt10 {n0 n1:Nat} {W0 W:World} {asl:Option Addr} {ns cs:Nat} {len:Nat→Nat} {Qf:Exit→Act→World→Prop} (h:∀ X,Mid n0 n1 W0 X→∀ j,j < ns→∃ g ad c',asl = some ⟨g,0,none⟩∧X.cell? ⟨g,j * 3+2,none⟩ = some (.slice ad (len j) c')∧WrT n0 n1 W0 ad (len j)) (hn:ns≤maxLen) (hl:∀ j,j < ns→len j≤maxLen) (hM:Mid n0 n1 W0 W) {c0 c1 c2 c3 c4 c5 c6 c7 c8 c9 c10 c11 c13 c14 c15 c16 c17 c18 c19 c20 c21 c22 c23 c24 c25 c26 c27 c28 c29 c30 c31 c32 c33 c34 c35 c36 c37 c38 c39 c40 c41 c42 c43 c44 c45 c46 c47 c48 c49 c50 c51 c52 c53 c54 c55 c56 c57 c58 c59 c60 c61 c62 c63 c64 c65 c66 c67 c68 c69 c70 c71 c72 c73 c74 c75 c76 c77 c78 c79 c80 c81 c82 c83 c84 c85 c86 c87 c88 c89 c90 c91 c92 c93 c94 c95 c96 c97 c98 c99 c100 c101 c102 c103 c104 c105 c106 c107 c108 c109 c110 c111 c112 c113 c114 c115 c116 c117 c118 c119 c120 c121 c122 c123 c124 c125 c126 c127 c128 c129 c130 c131 c132 c133 c134 c135 c136 c137 c138 c139 c140 c141 c142 c143 c144 c145 c146 c147 c148 c149 c150 c151 c152 c153 c154 c155 c156 c157 c158 c159 c160 c161 c162 c163 c164 c165 c166 c167 c168 c169 c170 c171 c172 c173 c174 c175 c176 c177 c178 c179 c180 c181 c182 c183 c184 c185 c186 c187 c188 c189 c190 c191 c192 c193 c194 c195 c196 c197 c198 c199 c200 c201 c202 c203 c204 c205 c206 c207 c208 c209 c210 c211 c212 c213 c214 c215 c216 c217 c218 c219 c220 c221 c222 c223 c224 c225 c226 c227 c228 c229 c230 c231 c232 c233 c234 c235 c236 c237 c238 c239 c240 c241 c242 c243 c244 c245 c246 c247 c248 c249 c250 c251 c252 c253 c254 c255 c256 c257 c258 c259 c260 c261 c262 c263 c264 c265 c266 c267 c268 c269 c270 c271 c272 c273 c274 c275 c276 c277 c278 c279 c280 c281 c282 c283 c284 c285 c286 c287 c288 c289 c290 c291 c292 c293 c294 c295 c296 c297 c298 c299 c300 c301 c302 c303 c304 c305 c306 c307 c308 c309 c310 c311 c312 c313 c314 c315 c316 c317 c318 c319 c320 c321 c322 c323 c324 c325 c326 c327 c328 c329 c330 c331 c332 c333 c334 c335 c336 c337 c338 c339 c340 c341 c342 c343 c344 c345 c346 c347 c348 c349 c350 c351 c352 c353 c354 c355 c356 c357 c358 c359 c360 c361 c362 c363:Value}
 (K:∀ (d23 d24 d132 d133 d134 d135 d136 d137 d138 d139 d140 d141 d142 d143 d144 d145 d146 d147 d148 d149 d150 d151 d152 d153 d154:Value) (V:World),Mid n0 n1 W0 V→Code.wp Tryz.prog (spine 11 (Tryz.f5.body.getD .skip)) Qf ⟨#[c0,c1,c2,c3,c4,c5,c6,c7,c8,c9,c10,c11,.slice asl ns cs,c13,c14,c15,c16,c17,c18,c19,c20,c21,c22,d23,d24,c25,c26,c27,c28,c29,c30,c31,c32,c33,c34,c35,c36,c37,c38,c39,c40,c41,c42,c43,c44,c45,c46,c47,c48,c49,c50,c51,c52,c53,c54,c55,c56,c57,c58,c59,c60,c61,c62,c63,c64,c65,c66,c67,c68,c69,c70,c71,c72,c73,c74,c75,c76,c77,c78,c79,c80,c81,c82,c83,c84,c85,c86,c87,c88,c89,c90,c91,c92,c93,c94,c95,c96,c97,c98,c99,c100,c101,c102,c103,c104,c105,c106,c107,c108,c109,c110,c111,c112,c113,c114,c115,c116,c117,c118,c119,c120,c121,c122,c123,c124,c125,c126,c127,c128,c129,c130,c131,d132,d133,d134,d135,d136,d137,d138,d139,d140,d141,d142,d143,d144,d145,d146,d147,d148,d149,d150,d151,d152,d153,d154,c155,c156,c157,c158,c159,c160,c161,c162,c163,c164,c165,c166,c167,c168,c169,c170,c171,c172,c173,c174,c175,c176,c177,c178,c179,c180,c181,c182,c183,c184,c185,c186,c187,c188,c189,c190,c191,c192,c193,c194,c195,c196,c197,c198,c199,c200,c201,c202,c203,c204,c205,c206,c207,c208,c209,c210,c211,c212,c213,c214,c215,c216,c217,c218,c219,c220,c221,c222,c223,c224,c225,c226,c227,c228,c229,c230,c231,c232,c233,c234,c235,c236,c237,c238,c239,c240,c241,c242,c243,c244,c245,c246,c247,c248,c249,c250,c251,c252,c253,c254,c255,c256,c257,c258,c259,c260,c261,c262,c263,c264,c265,c266,c267,c268,c269,c270,c271,c272,c273,c274,c275,c276,c277,c278,c279,c280,c281,c282,c283,c284,c285,c286,c287,c288,c289,c290,c291,c292,c293,c294,c295,c296,c297,c298,c299,c300,c301,c302,c303,c304,c305,c306,c307,c308,c309,c310,c311,c312,c313,c314,c315,c316,c317,c318,c319,c320,c321,c322,c323,c324,c325,c326,c327,c328,c329,c330,c331,c332,c333,c334,c335,c336,c337,c338,c339,c340,c341,c342,c343,c344,c345,c346,c347,c348,c349,c350,c351,c352,c353,c354,c355,c356,c357,c358,c359,c360,c361,c362,c363],[]⟩ V) :
 Code.wp Tryz.prog (spine 10 (Tryz.f5.body.getD .skip)) Qf ⟨#[c0,c1,c2,c3,c4,c5,c6,c7,c8,c9,c10,c11,.slice asl ns cs,c13,c14,c15,c16,c17,c18,c19,c20,c21,c22,c23,c24,c25,c26,c27,c28,c29,c30,c31,c32,c33,c34,c35,c36,c37,c38,c39,c40,c41,c42,c43,c44,c45,c46,c47,c48,c49,c50,c51,c52,c53,c54,c55,c56,c57,c58,c59,c60,c61,c62,c63,c64,c65,c66,c67,c68,c69,c70,c71,c72,c73,c74,c75,c76,c77,c78,c79,c80,c81,c82,c83,c84,c85,c86,c87,c88,c89,c90,c91,c92,c93,c94,c95,c96,c97,c98,c99,c100,c101,c102,c103,c104,c105,c106,c107,c108,c109,c110,c111,c112,c113,c114,c115,c116,c117,c118,c119,c120,c121,c122,c123,c124,c125,c126,c127,c128,c129,c130,c131,c132,c133,c134,c135,c136,c137,c138,c139,c140,c141,c142,c143,c144,c145,c146,c147,c148,c149,c150,c151,c152,c153,c154,c155,c156,c157,c158,c159,c160,c161,c162,c163,c164,c165,c166,c167,c168,c169,c170,c171,c172,c173,c174,c175,c176,c177,c178,c179,c180,c181,c182,c183,c184,c185,c186,c187,c188,c189,c190,c191,c192,c193,c194,c195,c196,c197,c198,c199,c200,c201,c202,c203,c204,c205,c206,c207,c208,c209,c210,c211,c212,c213,c214,c215,c216,c217,c218,c219,c220,c221,c222,c223,c224,c225,c226,c227,c228,c229,c230,c231,c232,c233,c234,c235,c236,c237,c238,c239,c240,c241,c242,c243,c244,c245,c246,c247,c248,c249,c250,c251,c252,c253,c254,c255,c256,c257,c258,c259,c260,c261,c262,c263,c264,c265,c266,c267,c268,c269,c270,c271,c272,c273,c274,c275,c276,c277,c278,c279,c280,c281,c282,c283,c284,c285,c286,c287,c288,c289,c290,c291,c292,c293,c294,c295,c296,c297,c298,c299,c300,c301,c302,c303,c304,c305,c306,c307,c308,c309,c310,c311,c312,c313,c314,c315,c316,c317,c318,c319,c320,c321,c322,c323,c324,c325,c326,c327,c328,c329,c330,c331,c332,c333,c334,c335,c336,c337,c338,c339,c340,c341,c342,c343,c344,c345,c346,c347,c348,c349,c350,c351,c352,c353,c354,c355,c356,c357,c358,c359,c360,c361,c362,c363],[]⟩ W:=by
 have HM:=hid hM
 have HH:=hid h
 conv=>arg 2;whnf
 apply wp_seq_k
 intro Kn hKn
 have HK:=hid (fun d23 d24 d132 d133 d134 d135 d136 d137 d138 d139 d140 d141 d142 d143 d144 d145 d146 d147 d148 d149 d150 d151 d152 d153 d154 V hV=>hKn _ _ (K d23 d24 d132 d133 d134 d135 d136 d137 d138 d139 d140 d141 d142 d143 d144 d145 d146 d147 d148 d149 d150 d151 d152 d153 d154 V hV))
 clear K hM hKn h
 have HL:=hid hl
 clear hl
 have hn':(ns:Int)≤9223372036854775807:=by unfold maxLen at *;omega
 go_wp2
 go_loopw [23] (fun v wr=>∃ k:Nat,k≤ns∧v = .int .i64 (k:Int)∧Hid (Mid n0 n1 W0 wr)) (fun v _=>ns - (intOf v).toNat)
 case atStart=>exact ⟨0,Nat.zero_le _,rfl,HM⟩
 case round =>
  obtain ⟨k,hk,rfl,hr⟩:=hrel
  by_cases hlt:k < ns
  ·have hlt':(k:Int) < (ns:Int):=by omega
   have hk0:(0:Int)≤(k:Int):=by omega
   obtain ⟨g,_,_,rfl,_⟩:=HH.out wr hr.out k hlt
   have hm0:=HL.out k hlt
   have Hc:=hid (fun X hX=>HH.out X hX k hlt)
   generalize len k = m at *
   have hm1:(m:Int)≤9223372036854775807:=by unfold maxLen at *;omega
   go_wp2
   go_loopw [24] (fun v X=>∃ n:Nat,n≤m∧v = .int .i64 (n:Int)∧Hid (Mid n0 n1 W0 X)) (fun v _=>m - (intOf v).toNat)
   case atStart=>exact ⟨0,Nat.zero_le _,rfl,hr⟩
   case round =>
    obtain ⟨n,hn1,rfl,hx⟩:=hrel
    obtain ⟨g',ad,c',e,hc,hw⟩:=Hc.out wr hx.out
    cases e
    by_cases hlt2:n < m
    ·have hlt2':(n:Int) < (m:Int):=by omega
     obtain ⟨b',off',rfl,hb,⟨z,hz⟩,hf⟩:=hw.at hx.out hlt2
     have Hb:=hid hb
     clear hb hw
     go_wp2
     go_roundw
     case rel=>exact ⟨n+1,by omega,by go_num,hid (hx.out.set Hb.out _ _)⟩
     case measure=>simp [intOf];omega
    ·obtain rfl:n = m:=by omega
     clear hw
     go_wp2
     go_roundw
     case rel=>exact ⟨k+1,by omega,by go_num,hx⟩
     case measure=>simp [intOf];omega
  ·obtain rfl:k = ns:=by omega
   go_wp2
   exact HK.out _ _ _ _ _ _ _ _ _ _ _ _ _ _ _ _ _ _ _ _ _ _ _ _ _ _ hr.out
set_option maxRecDepth 100000 in
set_option maxHeartbeats 4000000 in
theorem rt13 {n0 n1:Nat} {W0 W:World} {aa:Option Addr} {na ca:Nat} {l1 l2:Nat→Nat} {Qf:Exit→Act→World→Prop} (h:∀ X,Mid n0 n1 W0 X→∀ j,j < na→∃ g aL cL aR cR,aa = some ⟨g,0,none⟩∧X.cell? ⟨g,j * 2,none⟩ = some (.slice aL (l1 j) cL)∧X.cell? ⟨g,j * 2+1,none⟩ = some (.slice aR (l2 j) cR)∧WrT n0 n1 W0 aL (l1 j)∧WrT n0 n1 W0 aR (l2 j)) (hn:na≤maxLen) (hl:∀ j,j < na→l1 j≤maxLen∧l2 j≤maxLen) (hM:Mid n0 n1 W0 W) {c0 c1 c2 c3 c4 c5 c6 c7 c8 c9 c10 c11 c12 c13 c14 c15 c16 c17 c18 c19 c20 c21 c22 c23 c24 c26 c27 c28 c29 c30 c31 c32 c33 c34 c35 c36 c37 c38 c39 c40 c41 c42 c43 c44 c45 c46 c47 c48 c49 c50 c51 c52 c53 c54 c55 c56 c57 c58 c59 c60 c61 c62 c63 c64 c65 c66 c67 c68 c69 c70 c71 c72 c73 c74 c75 c76 c77 c78 c79 c80 c81 c82 c83 c84 c85 c86 c87 c88 c89 c90 c91 c92 c93 c94 c95 c96 c97 c98 c99 c100 c101 c102 c103 c104 c105 c106 c107 c108 c109 c110 c111 c112 c113 c114 c115 c116 c117 c118 c119 c120 c121 c122 c123 c124 c125 c126 c127 c128 c129 c130 c131 c132 c133 c134 c135 c136 c137 c138 c139 c140 c141 c142 c143 c144 c145 c146 c147 c148 c149 c150 c151 c152 c153 c154 c155 c156 c157 c158 c159 c160 c161 c162 c163 c164 c165 c166 c167 c168 c169 c170 c171 c172 c173 c174 c175 c176 c177 c178 c179 c180 c181 c182 c183 c184 c185 c186 c187 c188 c189 c190 c191 c192 c193 c194 c195 c196 c197 c198 c199 c200 c201 c202 c203 c204 c205 c206 c207 c208 c209 c210 c211 c212 c213 c214 c215 c216 c217 c218 c219 c220 c221 c222 c223 c224 c225 c226 c227 c228 c229 c230 c231 c232 c233 c234 c235 c236 c237 c238 c239 c240 c241 c242 c243 c244 c245 c246 c247 c248 c249 c250 c251 c252 c253 c254 c255 c256 c257 c258 c259 c260 c261 c262 c263 c264 c265 c266 c267 c268 c269 c270 c271 c272 c273 c274 c275 c276 c277 c278 c279 c280 c281 c282 c283 c284 c285 c286 c287 c288 c289 c290 c291 c292 c293 c294 c295 c296 c297 c298 c299 c300 c301 c302 c303 c304 c305 c306 c307 c308 c309 c310 c311 c312 c313 c314 c315 c316 c317 c318 c319 c320 c321 c322 c323 c324 c325 c326 c327 c328 c329 c330 c331 c332 c333 c334 c335 c336 c337 c338 c339 c340 c341 c342 c343 c344 c345 c346 c347 c348 c349 c350 c351 c352 c353 c354 c355 c356 c357 c358 c359 c360 c361 c362 c363:Value}
 (K:∀ (d27 d28 d29 d180 d181 d182 d183 d184 d185 d186 d187 d188 d189 d190 d191 d192 d193 d194 d195 d196 d197 d198 d199 d200 d201 d202 d203 d204 d205 d206 d207 d208 d209 d210 d211 d212 d213 d214 d215 d216 d217 d218 d219:Value) (V:World),Mid n0 n1 W0 V→Code.wp Tryz.prog (spine 14 (Tryz.f5.body.getD .skip)) Qf ⟨#[c0,c1,c2,c3,c4,c5,c6,c7,c8,c9,c10,c11,c12,c13,c14,c15,c16,c17,c18,c19,c20,c21,c22,c23,c24,.slice aa na ca,c26,d27,d28,d29,c30,c31,c32,c33,c34,c35,c36,c37,c38,c39,c40,c41,c42,c43,c44,c45,c46,c47,c48,c49,c50,c51,c52,c53,c54,c55,c56,c57,c58,c59,c60,c61,c62,c63,c64,c65,c66,c67,c68,c69,c70,c71,c72,c73,c74,c75,c76,c77,c78,c79,c80,c81,c82,c83,c84,c85,c86,c87,c88,c89,c90,c91,c92,c93,c94,c95,c96,c97,c98,c99,c100,c101,c102,c103,c104,c105,c106,c107,c108,c109,c110,c111,c112,c113,c114,c115,c116,c117,c118,c119,c120,c121,c122,c123,c124,c125,c126,c127,c128,c129,c130,c131,c132,c133,c134,c135,c136,c137,c138,c139,c140,c141,c142,c143,c144,c145,c146,c147,c148,c149,c150,c151,c152,c153,c154,c155,c156,c157,c158,c159,c160,c161,c162,c163,c164,c165,c166,c167,c168,c169,c170,c171,c172,c173,c174,c175,c176,c177,c178,c179,d180,d181,d182,d183,d184,d185,d186,d187,d188,d189,d190,d191,d192,d193,d194,d195,d196,d197,d198,d199,d200,d201,d202,d203,d204,d205,d206,d207,d208,d209,d210,d211,d212,d213,d214,d215,d216,d217,d218,d219,c220,c221,c222,c223,c224,c225,c226,c227,c228,c229,c230,c231,c232,c233,c234,c235,c236,c237,c238,c239,c240,c241,c242,c243,c244,c245,c246,c247,c248,c249,c250,c251,c252,c253,c254,c255,c256,c257,c258,c259,c260,c261,c262,c263,c264,c265,c266,c267,c268,c269,c270,c271,c272,c273,c274,c275,c276,c277,c278,c279,c280,c281,c282,c283,c284,c285,c286,c287,c288,c289,c290,c291,c292,c293,c294,c295,c296,c297,c298,c299,c300,c301,c302,c303,c304,c305,c306,c307,c308,c309,c310,c311,c312,c313,c314,c315,c316,c317,c318,c319,c320,c321,c322,c323,c324,c325,c326,c327,c328,c329,c330,c331,c332,c333,c334,c335,c336,c337,c338,c339,c340,c341,c342,c343,c344,c345,c346,c347,c348,c349,c350,c351,c352,c353,c354,c355,c356,c357,c358,c359,c360,c361,c362,c363],[]⟩ V) :
 Code.wp Tryz.prog (spine 13 (Tryz.f5.body.getD .skip)) Qf ⟨#[c0,c1,c2,c3,c4,c5,c6,c7,c8,c9,c10,c11,c12,c13,c14,c15,c16,c17,c18,c19,c20,c21,c22,c23,c24,.slice aa na ca,c26,c27,c28,c29,c30,c31,c32,c33,c34,c35,c36,c37,c38,c39,c40,c41,c42,c43,c44,c45,c46,c47,c48,c49,c50,c51,c52,c53,c54,c55,c56,c57,c58,c59,c60,c61,c62,c63,c64,c65,c66,c67,c68,c69,c70,c71,c72,c73,c74,c75,c76,c77,c78,c79,c80,c81,c82,c83,c84,c85,c86,c87,c88,c89,c90,c91,c92,c93,c94,c95,c96,c97,c98,c99,c100,c101,c102,c103,c104,c105,c106,c107,c108,c109,c110,c111,c112,c113,c114,c115,c116,c117,c118,c119,c120,c121,c122,c123,c124,c125,c126,c127,c128,c129,c130,c131,c132,c133,c134,c135,c136,c137,c138,c139,c140,c141,c142,c143,c144,c145,c146,c147,c148,c149,c150,c151,c152,c153,c154,c155,c156,c157,c158,c159,c160,c161,c162,c163,c164,c165,c166,c167,c168,c169,c170,c171,c172,c173,c174,c175,c176,c177,c178,c179,c180,c181,c182,c183,c184,c185,c186,c187,c188,c189,c190,c191,c192,c193,c194,c195,c196,c197,c198,c199,c200,c201,c202,c203,c204,c205,c206,c207,c208,c209,c210,c211,c212,c213,c214,c215,c216,c217,c218,c219,c220,c221,c222,c223,c224,c225,c226,c227,c228,c229,c230,c231,c232,c233,c234,c235,c236,c237,c238,c239,c240,c241,c242,c243,c244,c245,c246,c247,c248,c249,c250,c251,c252,c253,c254,c255,c256,c257,c258,c259,c260,c261,c262,c263,c264,c265,c266,c267,c268,c269,c270,c271,c272,c273,c274,c275,c276,c277,c278,c279,c280,c281,c282,c283,c284,c285,c286,c287,c288,c289,c290,c291,c292,c293,c294,c295,c296,c297,c298,c299,c300,c301,c302,c303,c304,c305,c306,c307,c308,c309,c310,c311,c312,c313,c314,c315,c316,c317,c318,c319,c320,c321,c322,c323,c324,c325,c326,c327,c328,c329,c330,c331,c332,c333,c334,c335,c336,c337,c338,c339,c340,c341,c342,c343,c344,c345,c346,c347,c348,c349,c350,c351,c352,c353,c354,c355,c356,c357,c358,c359,c360,c361,c362,c363],[]⟩ W:=by
 have HM:=hid hM
 have HH:=hid h
 conv=>arg 2;whnf
 apply wp_seq_k
 intro Kn hKn
 have HK:=hid (fun d27 d28 d29 d180 d181 d182 d183 d184 d185 d186 d187 d188 d189 d190 d191 d192 d193 d194 d195 d196 d197 d198 d199 d200 d201 d202 d203 d204 d205 d206 d207 d208 d209 d210 d211 d212 d213 d214 d215 d216 d217 d218 d219 V hV=>hKn _ _ (K d27 d28 d29 d180 d181 d182 d183 d184 d185 d186 d187 d188 d189 d190 d191 d192 d193 d194 d195 d196 d197 d198 d199 d200 d201 d202 d203 d204 d205 d206 d207 d208 d209 d210 d211 d212 d213 d214 d215 d216 d217 d218 d219 V hV))
 clear K hM hKn h
 have HL:=hid hl
 clear hl
 have hn':(na:Int)≤9223372036854775807:=by unfold maxLen at *;omega
 go_wp2
 go_loopw [27] (fun v wr=>∃ k:Nat,k≤na∧v = .int .i64 (k:Int)∧Hid (Mid n0 n1 W0 wr)) (fun v _=>na - (intOf v).toNat)
 case atStart=>exact ⟨0,Nat.zero_le _,rfl,HM⟩
 case round =>
  obtain ⟨k,hk,rfl,hr⟩:=hrel
  by_cases hlt:k < na
  ·have hlt':(k:Int) < (na:Int):=by omega
   have hk0:(0:Int)≤(k:Int):=by omega
   obtain ⟨g,_,_,_,_,rfl,_⟩:=HH.out wr hr.out k hlt
   obtain ⟨hm1,hm2⟩:=HL.out k hlt
   have Hc:=hid (fun X hX=>HH.out X hX k hlt)
   generalize l1 k = m1 at *
   generalize l2 k = m2 at *
   have hm1':(m1:Int)≤9223372036854775807:=by unfold maxLen at *;omega
   have hm2':(m2:Int)≤9223372036854775807:=by unfold maxLen at *;omega
   go_wp2
   go_loopw [28] (fun v X=>∃ n:Nat,n≤m1∧v = .int .i64 (n:Int)∧Hid (Mid n0 n1 W0 X)) (fun v _=>m1 - (intOf v).toNat)
   case atStart=>exact ⟨0,Nat.zero_le _,rfl,hr⟩
   case round =>
    obtain ⟨n,hn1,rfl,hx⟩:=hrel
    obtain ⟨g',aL,cL,aR,cR,e,hcL,hcR,hwL,hwR⟩:=Hc.out wr hx.out
    cases e
    by_cases hlt2:n < m1
    ·have hlt2':(n:Int) < (m1:Int):=by omega
     obtain ⟨b',off',rfl,hb,⟨z,hz⟩,hf⟩:=hwL.at hx.out hlt2
     have Hb:=hid hb
     clear hb hwL hwR
     go_wp2
     go_roundw
     case rel=>exact ⟨n+1,by omega,by go_num,hid (hx.out.set Hb.out _ _)⟩
     case measure=>simp [intOf];omega
    ·obtain rfl:n = m1:=by omega
     clear hwL hwR
     go_wp2
     go_loopw [29] (fun v X=>∃ n:Nat,n≤m2∧v = .int .i64 (n:Int)∧Hid (Mid n0 n1 W0 X)) (fun v _=>m2 - (intOf v).toNat)
     case atStart=>exact ⟨0,Nat.zero_le _,rfl,hx⟩
     case round =>
      obtain ⟨n,hn1,rfl,hx⟩:=hrel
      obtain ⟨g',aL,cL,aR,cR,e,hcL,hcR,hwL,hwR⟩:=Hc.out wr hx.out
      cases e
      by_cases hlt2:n < m2
      ·have hlt2':(n:Int) < (m2:Int):=by omega
       obtain ⟨b',off',rfl,hb,⟨z,hz⟩,hf⟩:=hwR.at hx.out hlt2
       have Hb:=hid hb
       clear hb hwL hwR
       go_wp2
       go_roundw
       case rel=>exact ⟨n+1,by omega,by go_num,hid (hx.out.set Hb.out _ _)⟩
       case measure=>simp [intOf];omega
      ·obtain rfl:n = m2:=by omega
       clear hwL hwR
       go_wp2
       go_roundw
       case rel=>exact ⟨k+1,by omega,by go_num,hx⟩
       case measure=>simp [intOf];omega
  ·obtain rfl:k = na:=by omega
   go_wp2
   exact HK.out _ _ _ _ _ _ _ _ _ _ _ _ _ _ _ _ _ _ _ _ _ _ _ _ _ _ _ _ _ _ _ _ _ _ _ _ _ _ _ _ _ _ _ _ hr.out
end Go.Proofs.YtglohanbpjaieaaGreat
namespace Go.Proofs.YtglohanbpjaieaaGreat
open Go.Proofs Go.RowKit Go.Shelf Go.Maps
def WrV (n0 n1:Nat) (w:World) (u:Value):Prop:=∃ a n c,u = .slice a n c∧WrT n0 n1 w a n∧n≤maxLen
theorem WrV.one {n0 n1:Nat} {w:World} {u:Value} (h:WrV n0 n1 w u):u.oneCell' = true:=by
 obtain ⟨_,_,_,rfl,_⟩:=h
 rfl
def RowE (E:Value→Prop) (e:TypeId) (sb:Nat) (W:World) (v:Value) (n:Nat):Prop:=∃ us:List Value,W.ownsRow sb e 2 v n us∧∀ u∈us,E u
theorem RowE.lit0 (E:Value→Prop) (e:TypeId) (sb:Nat) (W:World) (h:sb≤W.heap.size):RowE E e sb (W.alloc (.cells #[] e)) (.slice (some ⟨W.heap.size,0,none⟩) 0 0) 0 :=
 ⟨[],⟨rfl,.inr ⟨W.heap.size,0,#[],rfl,h,World.alloc_heap_new W _,Nat.le_refl _,by unfold maxLen;omega,rfl,rfl⟩⟩,fun u hu=>by simp at hu⟩
theorem RowE.keep {E:Value→Prop} {e:TypeId} {sb:Nat} {W W':World} {v:Value} {n:Nat} (h:RowE E e sb W v n) (hk:∀ b,b < W.heap.size→W'.heap[b]? = W.heap[b]?):RowE E e sb W' v n:=by
 obtain ⟨us,h1,h2⟩:=h
 exact ⟨us,own_keep h1 fun q hq=>hk q (World.ownsRow.lt h1 q hq).2,h2⟩
theorem RowE.below {E:Value→Prop} {e:TypeId} {sb:Nat} {W W':World} {v:Value} {n:Nat} (h:RowE E e sb W v n) (hB:Below W.heap.size W W'):RowE E e sb W' v n:=h.keep hB.block
theorem RowE.slice {E:Value→Prop} {e:TypeId} {sb:Nat} {W:World} {v:Value} {n:Nat} (h:RowE E e sb W v n):∃ a c,v = .slice a n c∧n≤maxLen:=by
 obtain ⟨us,h1,_⟩:=h
 rcases h1.2 with ⟨rfl,h0⟩ | ⟨g,cap,cur,rfl,_,_,h3,h4,_⟩
 ·exact ⟨none,0,by rw [h0],by omega⟩
 ·exact ⟨_,cap,rfl,by omega⟩
theorem RowE.elem {n0 n1:Nat} {w:World} {e:TypeId} {sb:Nat} {W:World} {v:Value} {n:Nat} (h:RowE (WrV n0 n1 w) e sb W v n) {k:Nat} (hk:k < n) :
 ∃ g cap aL nL cL aR nR cR,v = .slice (some ⟨g,0,none⟩) n cap∧g < W.heap.size∧W.cell? ⟨g,k * 2,none⟩ = some (.slice aL nL cL)∧W.cell? ⟨g,k * 2+1,none⟩ = some (.slice aR nR cR)∧WrV n0 n1 w (.slice aL nL cL)∧WrV n0 n1 w (.slice aR nR cR):=by
 obtain ⟨us,h1,h2⟩:=h
 have hl:us.length = n * 2:=h1.1
 rcases h1.2 with ⟨rfl,h0⟩ | ⟨g,cap,cur,rfl,hb,hgb,_⟩
 ·omega
 ·have c1:=World.ownsRow.cellAt h1 (k * 2) (by omega)
  have c2:=World.ownsRow.cellAt h1 (k * 2+1) (by omega)
  rw [List.getElem?_eq_getElem (show k * 2 < us.length by omega)] at c1
  rw [List.getElem?_eq_getElem (show k * 2+1 < us.length by omega)] at c2
  have e1:=h2 _ (List.getElem_mem (show k * 2 < us.length by omega))
  have e2:=h2 _ (List.getElem_mem (show k * 2+1 < us.length by omega))
  obtain ⟨aL,nL,cL,q1,_⟩:=id e1
  obtain ⟨aR,nR,cR,q2,_⟩:=id e2
  rw [q1] at c1 e1
  rw [q2] at c2 e2
  exact ⟨g,cap,aL,nL,cL,aR,nR,cR,rfl,(Array.getElem?_eq_some_iff.1 hgb).1,c1,c2,e1,e2⟩
theorem NewX.rowE {n0 n1 sb:Nat} {e:TypeId} (he:e≠3) {w w' W:World} {v:Value} {ps:PairL} (h:NewX false e sb n0 w v ps) (hn:w.heap.size≤n1) (hB:Below w.heap.size w w') (hM:Mid n0 n1 w' W):RowE (WrV n0 n1 w') e sb W v ps.length:=by
 obtain ⟨us,h1,h2⟩:=h
 have hl:us.length = ps.length * 2:=h1.1
 refine ⟨us,own_keep h1 fun q hq=>?_,fun u hu=>?_⟩
 ·obtain ⟨cs,hc⟩:=own_type h1 hq
  have hlt:q < w.heap.size:=(Array.getElem?_eq_some_iff.1 hc).1
  have hs:=hB.size
  refine (hM.out q (by omega) ?_).trans (hB.block q hlt)
  rintro ⟨_,_,cs',h3⟩
  rw [hB.block q hlt,hc] at h3
  simp only [Option.some.injEq,Obj.cells.injEq] at h3
  exact he h3.2.1
 ·obtain ⟨k,hk,e⟩:=List.getElem_of_mem hu
  obtain ⟨aL,cL,aR,cR,p1,p2,i1,i2,r1,r2,r3,r4⟩:=h2 (k / 2) (by omega)
  rcases Nat.mod_two_eq_zero_or_one k with h0 | h0
  ·rw [show k / 2 * 2 = k by omega,List.getElem?_eq_getElem hk,e] at p1
   cases p1
   exact ⟨_,_,_,rfl,(i1.wr hn).below hB,by omega⟩
  ·rw [show k / 2 * 2+1 = k by omega,List.getElem?_eq_getElem hk,e] at p2
   cases p2
   exact ⟨_,_,_,rfl,(i2.wr hn).below hB,by omega⟩
theorem WrT.mid {n0 n1:Nat} {w W:World} {a:Option Addr} {n:Nat} (h:WrT n0 n1 w a n) (hM:Mid n0 n1 w W):WrT n0 n1 W a n:=fun j hj=>by
 obtain ⟨b,off,e,hb,z,_⟩:=h.at hM hj
 exact ⟨b,off,e,⟨hb.1,hb.2.1,hM.typ b hb⟩,z⟩
theorem RowE.mid {n0 n1:Nat} {w:World} {e:TypeId} (he:e≠3) {sb:Nat} {W:World} {v:Value} {n:Nat} (h:RowE (WrV n0 n1 w) e sb W v n) (hM:Mid n0 n1 w W):∃ l1 l2:Nat→Nat,(∀ j,j < n→l1 j≤maxLen∧l2 j≤maxLen)∧∃ a c,v = .slice a n c∧n≤maxLen ∧
 ∀ X,Mid n0 n1 W X→∀ j,j < n→∃ g aL cL aR cR,a = some ⟨g,0,none⟩∧X.cell? ⟨g,j * 2,none⟩ = some (.slice aL (l1 j) cL)∧X.cell? ⟨g,j * 2+1,none⟩ = some (.slice aR (l2 j) cR)∧WrT n0 n1 W aL (l1 j)∧WrT n0 n1 W aR (l2 j):=by
 obtain ⟨a,c,rfl,hm⟩:=h.slice
 have ht:∀ g,(Value.slice a n c).ownBlock = some g→∃ cs,W.heap[g]? = some (.cells cs e (0,0)):=fun g hg=>by
  obtain ⟨us,h1,_⟩:=id h
  exact own_type h1 hg
 have key:∀ j:Nat,∃ x:Nat × Nat,j < n→(x.1≤maxLen∧x.2≤maxLen)∧∀ X,Mid n0 n1 W X→∃ g aL cL aR cR,a = some ⟨g,0,none⟩∧X.cell? ⟨g,j * 2,none⟩ = some (.slice aL x.1 cL)∧X.cell? ⟨g,j * 2+1,none⟩ = some (.slice aR x.2 cR)∧WrT n0 n1 W aL x.1∧WrT n0 n1 W aR x.2:=fun j=>by
  by_cases hj:j < n
  ·obtain ⟨g,cap,aL,nL,cL,aR,nR,cR,e1,hg,c1,c2,w1,w2⟩:=h.elem hj
   obtain ⟨_,_,_,q1,t1,m1⟩:=w1
   obtain ⟨_,_,_,q2,t2,m2⟩:=w2
   cases q1
   cases q2
   cases e1
   obtain ⟨cs,hcs⟩:=ht g rfl
   exact ⟨(nL,nR),fun _=>⟨⟨m1,m2⟩,fun X hX=>⟨g,aL,cL,aR,cR,rfl,(hX.cell hcs he).trans c1,(hX.cell hcs he).trans c2,t1.mid hM,t2.mid hM⟩⟩⟩
  ·exact ⟨(0,0),fun h=>absurd h hj⟩
 obtain ⟨f,hf⟩:=Classical.axiomOfChoice key
 exact ⟨fun j=>(f j).1,fun j=>(f j).2,fun j hj=>(hf j hj).1,a,c,rfl,hm,fun X hX j hj=>(hf j hj).2 X hX⟩
theorem wp_apps_e {E:Value→Prop} (hE:∀ u,E u→u.oneCell' = true) {ops:Array Oper} {rest:List Oper} {o:Oper} {a:Act} {Q:Exit→Act→World→Prop} (w:World) (hgd:o.guard = none) (s x:Operand)
 (ho:o.op = .call { callee:=.builtin .append,args:=#[s,x],argTypes:=#[24,24] }) (sb:Nat) (v:Value) (n:Nat) (hs:a.eval s = v) (hN:RowE E 40 sb w v n)
 (v2:Value) (m:Nat) (hx:a.eval x = v2) (sb2:Nat) (hM:RowE E 40 sb2 w v2 m) (hlen:n+m≤100000) (hbase:sb≤w.heap.size)
 (h:∀ v' w',RowE E 40 sb w' v' (n+m)→Below sb w w'→wpList Tryz.prog ops Q rest (a.put o.dst v') w'):wpList Tryz.prog ops Q (o :: rest) a w:=by
 obtain ⟨i0,hi,hz0,hz1,hz2⟩:=info_parts Tryz.info40
 obtain ⟨us,h1,h2⟩:=hN
 obtain ⟨us',m1,m2⟩:=hM
 have hul':us'.length = m * 2:=m1.1
 rcases m1.2 with ⟨rfl,hn⟩ | ⟨g,cap,cur,rfl,hb,hgb,r1,r2,r3⟩
 ·subst hn
  refine wpList_append_own_none hgd s x 24 ho sb 40 i0 2 Tryz.underlying24 hi v n us hs h1 hx (h v w ⟨us,h1,h2⟩ (Below.refl _ _))
 ·refine wpList_append_own w hgd s x 24 ho sb 40 i0 (.agg #[.slice none 0 0,.slice none 0 0]) 2 48 Tryz.underlying24 hi hz0 hz1 hz2 rfl (by decide) v n us hs h1 ⟨g,0,none⟩ m cap us' hx (by omega)
   (by intro j z hj
       have hjl:j < m * 2:=by
        have:=(List.getElem?_eq_some_iff.1 hj).1
        omega
       rw [Go.WideShapes.add_plain]
       have:=World.ownsRow.cellAt m1 j hjl
       rw [hj] at this
       simpa using this)
   (fun u hu=>hE u (m2 u hu)) (by unfold maxLen;omega) (by omega) hbase ?_
  intro v' w' hown hg _
  exact h v' w' ⟨us++us',hown,fun u hu=>(List.mem_append.1 hu).elim (h2 u) (m2 u)⟩ ((Below.refl sb w).grown hg hbase (fun k e=>(World.ownsRow.lt h1 k e).1))
theorem step_app_e {E:Value→Prop} (hE:∀ u,E u→u.oneCell' = true) {ops:Array Oper} {o:Oper} {a:Act} {K:Act→World→Prop} {Q:Exit→Act→World→Prop} {E':Prop} (w:World) (hgd:o.guard = none) (s x:Operand)
 (ho:o.op = .call { callee:=.builtin .append,args:=#[s,x],argTypes:=#[24,24] }) (sb:Nat) (v:Value) (n:Nat) (hs:a.eval s = v) (hN:RowE E 40 sb w v n)
 (B:Nat) (uL uR:Value) (hx:a.eval x = .slice (some ⟨B,0,none⟩) 1 1) (hB0:w.cell? ⟨B,0,none⟩ = some uL) (hB1:w.cell? ⟨B,1,none⟩ = some uR) (h1:E uL) (h2:E uR) (hlen:n≤1000000) (hbase:sb≤w.heap.size)
 (h:∀ g c' w',RowE E 40 sb w' (.slice (some ⟨g,0,none⟩) (n+1) c') (n+1)→Below sb w w'→K (a.put o.dst (.slice (some ⟨g,0,none⟩) (n+1) c')) w') :
 if Region.wanted o (yielded ops a.tmps) = true then Oper.wp Tryz.prog o a w K Q else E':=by
 obtain ⟨i0,hi,hz0,hz1,hz2⟩:=info_parts Tryz.info40
 obtain ⟨us,hus,hcl⟩:=hN
 refine step_append_lies w hgd s x 24 ho sb 40 i0 (.agg #[.slice none 0 0,.slice none 0 0]) 2 48 Tryz.underlying24 hi hz0 hz1 hz2 rfl (by decide) v n us hs hus ⟨B,0,none⟩ 1 1 [uL,uR] hx (by simp)
  (by intro j z hj
      match j,hj with
      | 0,hj=>simp at hj;subst hj;rw [Go.WideShapes.add_plain];simpa using hB0
      | 1,hj=>simp at hj;subst hj;rw [Go.WideShapes.add_plain];simpa using hB1)
  (by intro u hu;simp at hu;rcases hu with rfl | rfl;exact hE _ h1;exact hE _ h2) (by decide) (by unfold maxLen;omega) (by omega) hbase w.heap.size rfl ?_
 intro g c' w' hown hg _ _
 refine h g c' w' ⟨us++[uL,uR],hown,fun u hu=>?_⟩ ((Below.refl sb w).grown hg hbase fun k e=>(World.ownsRow.lt hus k e).1)
 simp only [List.mem_append,List.mem_cons,List.not_mem_nil,or_false] at hu
 rcases hu with hu | rfl | rfl
 ·exact hcl u hu
 ·exact h1
 ·exact h2
end Go.Proofs.YtglohanbpjaieaaGreat
namespace Go.Proofs.YtglohanbpjaieaaGreat
open Go.Proofs Go.RowKit Go.Shelf Go.Maps Go.Deep
set_option maxRecDepth 100000 in
set_option maxHeartbeats 4000000 in
theorem rt11 {E:Value→Prop} (hE:∀ u,E u→u.oneCell' = true) {sp sq:Nat} {W:World} {vp vq:Value} {np nq:Nat} {Qf:Exit→Act→World→Prop} (h:RowE E 40 sp W vp np) (hM:RowE E 40 sq W vq nq) (hl:np+nq≤50000) {c0 c1 c2 c3 c4 c5 c6 c7 c8 c9 c10 c11 c12 c13 c15 c16 c18 c19 c20 c21 c22 c23 c24 c25 c26 c27 c28 c29 c30 c31 c32 c33 c34 c35 c36 c37 c38 c39 c40 c41 c42 c43 c44 c45 c46 c47 c48 c49 c50 c51 c52 c53 c54 c55 c56 c57 c58 c59 c60 c61 c62 c63 c64 c65 c66 c67 c68 c69 c70 c71 c72 c73 c74 c75 c76 c77 c78 c79 c80 c81 c82 c83 c84 c85 c86 c87 c88 c89 c90 c91 c92 c93 c94 c95 c96 c97 c98 c99 c100 c101 c102 c103 c104 c105 c106 c107 c108 c109 c110 c111 c112 c113 c114 c115 c116 c117 c118 c119 c120 c121 c122 c123 c124 c125 c126 c127 c128 c129 c130 c131 c132 c133 c134 c135 c136 c137 c138 c139 c140 c141 c142 c143 c144 c145 c146 c147 c148 c149 c150 c151 c152 c153 c154 c155 c156 c157 c158 c159 c160 c161 c162 c163 c164 c165 c166 c167 c168 c169 c170 c171 c172 c173 c174 c175 c176 c177 c178 c179 c180 c181 c182 c183 c184 c185 c186 c187 c188 c189 c190 c191 c192 c193 c194 c195 c196 c197 c198 c199 c200 c201 c202 c203 c204 c205 c206 c207 c208 c209 c210 c211 c212 c213 c214 c215 c216 c217 c218 c219 c220 c221 c222 c223 c224 c225 c226 c227 c228 c229 c230 c231 c232 c233 c234 c235 c236 c237 c238 c239 c240 c241 c242 c243 c244 c245 c246 c247 c248 c249 c250 c251 c252 c253 c254 c255 c256 c257 c258 c259 c260 c261 c262 c263 c264 c265 c266 c267 c268 c269 c270 c271 c272 c273 c274 c275 c276 c277 c278 c279 c280 c281 c282 c283 c284 c285 c286 c287 c288 c289 c290 c291 c292 c293 c294 c295 c296 c297 c298 c299 c300 c301 c302 c303 c304 c305 c306 c307 c308 c309 c310 c311 c312 c313 c314 c315 c316 c317 c318 c319 c320 c321 c322 c323 c324 c325 c326 c327 c328 c329 c330 c331 c332 c333 c334 c335 c336 c337 c338 c339 c340 c341 c342 c343 c344 c345 c346 c347 c348 c349 c350 c351 c352 c353 c354 c355 c356 c357 c358 c359 c360 c361 c362 c363:Value}
 (K:∀ (d25 d155 d156 d157 d158 d159:Value) (V:World),RowE E 40 W.heap.size V d25 (np+nq)∧Below W.heap.size W V→Code.wp Tryz.prog (spine 12 (Tryz.f5.body.getD .skip)) Qf ⟨#[c0,c1,c2,c3,c4,c5,c6,c7,c8,c9,c10,c11,c12,c13,vp,c15,c16,vq,c18,c19,c20,c21,c22,c23,c24,d25,c26,c27,c28,c29,c30,c31,c32,c33,c34,c35,c36,c37,c38,c39,c40,c41,c42,c43,c44,c45,c46,c47,c48,c49,c50,c51,c52,c53,c54,c55,c56,c57,c58,c59,c60,c61,c62,c63,c64,c65,c66,c67,c68,c69,c70,c71,c72,c73,c74,c75,c76,c77,c78,c79,c80,c81,c82,c83,c84,c85,c86,c87,c88,c89,c90,c91,c92,c93,c94,c95,c96,c97,c98,c99,c100,c101,c102,c103,c104,c105,c106,c107,c108,c109,c110,c111,c112,c113,c114,c115,c116,c117,c118,c119,c120,c121,c122,c123,c124,c125,c126,c127,c128,c129,c130,c131,c132,c133,c134,c135,c136,c137,c138,c139,c140,c141,c142,c143,c144,c145,c146,c147,c148,c149,c150,c151,c152,c153,c154,d155,d156,d157,d158,d159,c160,c161,c162,c163,c164,c165,c166,c167,c168,c169,c170,c171,c172,c173,c174,c175,c176,c177,c178,c179,c180,c181,c182,c183,c184,c185,c186,c187,c188,c189,c190,c191,c192,c193,c194,c195,c196,c197,c198,c199,c200,c201,c202,c203,c204,c205,c206,c207,c208,c209,c210,c211,c212,c213,c214,c215,c216,c217,c218,c219,c220,c221,c222,c223,c224,c225,c226,c227,c228,c229,c230,c231,c232,c233,c234,c235,c236,c237,c238,c239,c240,c241,c242,c243,c244,c245,c246,c247,c248,c249,c250,c251,c252,c253,c254,c255,c256,c257,c258,c259,c260,c261,c262,c263,c264,c265,c266,c267,c268,c269,c270,c271,c272,c273,c274,c275,c276,c277,c278,c279,c280,c281,c282,c283,c284,c285,c286,c287,c288,c289,c290,c291,c292,c293,c294,c295,c296,c297,c298,c299,c300,c301,c302,c303,c304,c305,c306,c307,c308,c309,c310,c311,c312,c313,c314,c315,c316,c317,c318,c319,c320,c321,c322,c323,c324,c325,c326,c327,c328,c329,c330,c331,c332,c333,c334,c335,c336,c337,c338,c339,c340,c341,c342,c343,c344,c345,c346,c347,c348,c349,c350,c351,c352,c353,c354,c355,c356,c357,c358,c359,c360,c361,c362,c363],[]⟩ V) :
 Code.wp Tryz.prog (spine 11 (Tryz.f5.body.getD .skip)) Qf ⟨#[c0,c1,c2,c3,c4,c5,c6,c7,c8,c9,c10,c11,c12,c13,vp,c15,c16,vq,c18,c19,c20,c21,c22,c23,c24,c25,c26,c27,c28,c29,c30,c31,c32,c33,c34,c35,c36,c37,c38,c39,c40,c41,c42,c43,c44,c45,c46,c47,c48,c49,c50,c51,c52,c53,c54,c55,c56,c57,c58,c59,c60,c61,c62,c63,c64,c65,c66,c67,c68,c69,c70,c71,c72,c73,c74,c75,c76,c77,c78,c79,c80,c81,c82,c83,c84,c85,c86,c87,c88,c89,c90,c91,c92,c93,c94,c95,c96,c97,c98,c99,c100,c101,c102,c103,c104,c105,c106,c107,c108,c109,c110,c111,c112,c113,c114,c115,c116,c117,c118,c119,c120,c121,c122,c123,c124,c125,c126,c127,c128,c129,c130,c131,c132,c133,c134,c135,c136,c137,c138,c139,c140,c141,c142,c143,c144,c145,c146,c147,c148,c149,c150,c151,c152,c153,c154,c155,c156,c157,c158,c159,c160,c161,c162,c163,c164,c165,c166,c167,c168,c169,c170,c171,c172,c173,c174,c175,c176,c177,c178,c179,c180,c181,c182,c183,c184,c185,c186,c187,c188,c189,c190,c191,c192,c193,c194,c195,c196,c197,c198,c199,c200,c201,c202,c203,c204,c205,c206,c207,c208,c209,c210,c211,c212,c213,c214,c215,c216,c217,c218,c219,c220,c221,c222,c223,c224,c225,c226,c227,c228,c229,c230,c231,c232,c233,c234,c235,c236,c237,c238,c239,c240,c241,c242,c243,c244,c245,c246,c247,c248,c249,c250,c251,c252,c253,c254,c255,c256,c257,c258,c259,c260,c261,c262,c263,c264,c265,c266,c267,c268,c269,c270,c271,c272,c273,c274,c275,c276,c277,c278,c279,c280,c281,c282,c283,c284,c285,c286,c287,c288,c289,c290,c291,c292,c293,c294,c295,c296,c297,c298,c299,c300,c301,c302,c303,c304,c305,c306,c307,c308,c309,c310,c311,c312,c313,c314,c315,c316,c317,c318,c319,c320,c321,c322,c323,c324,c325,c326,c327,c328,c329,c330,c331,c332,c333,c334,c335,c336,c337,c338,c339,c340,c341,c342,c343,c344,c345,c346,c347,c348,c349,c350,c351,c352,c353,c354,c355,c356,c357,c358,c359,c360,c361,c362,c363],[]⟩ W:=by
 have hA:Hid (Below W.heap.size W (W.alloc (.cells #[] 40))):=(Below.refl _ _).alloc (Nat.le_refl _) _
 have hl0:Hid (RowE E 40 W.heap.size (W.alloc (.cells #[] 40)) (.slice (some ⟨W.heap.size,0,none⟩) 0 0) 0):=RowE.lit0 _ _ _ _ (Nat.le_refl _)
 have hp:=hid (h.below hA.out)
 have hq:=hid hM
 conv=>arg 2;whnf
 apply wp_seq_k
 intro Kn hKn
 have HK:=hid (fun d25 d155 d156 d157 d158 d159 V hV=>hKn _ _ (K d25 d155 d156 d157 d158 d159 V hV))
 clear K hM hKn h
 go_wp2_with (first
  | (at_builtin;go_loud (refine wp_apps_e hE _ rfl _ _ rfl W.heap.size (.slice (some ⟨W.heap.size,0,none⟩) 0 0) 0 rfl hl0.out vp np rfl sp hp.out (by omega) hA.out.size ?_);intro v1 w1 N1 b1;rw [Nat.zero_add] at N1;have B1:=hA.out.trans b1;have hq1:=hid (hq.out.below B1))
  | (at_builtin;refine wp_apps_e hE _ rfl _ _ rfl W.heap.size v1 np rfl N1 vq nq rfl sq hq1.out (by omega) B1.size ?_;intro v2 w2 N2 b2))
 exact HK.out _ _ _ _ _ _ _ ⟨N2,B1.trans b2⟩
set_option maxRecDepth 100000 in
set_option maxHeartbeats 4000000 in
theorem rt12 {n0 n1 sm:Nat} {w0 Wb W:World} {va:Value} {am:Option Addr} {nm cm na:Nat} {Qf:Exit→Act→World→Prop} (h:RowE (WrV n0 n1 w0) 54 sm Wb (.slice am nm cm) nm) (hM:RowE (WrV n0 n1 w0) 40 Wb.heap.size W va na) (hB:Below Wb.heap.size Wb W) (hl:na+nm≤100000) {c0 c1 c2 c3 c4 c5 c6 c7 c8 c9 c10 c11 c12 c13 c14 c15 c17 c18 c19 c20 c21 c22 c23 c24 c26 c27 c28 c29 c30 c31 c32 c33 c34 c35 c36 c37 c38 c39 c40 c41 c42 c43 c44 c45 c46 c47 c48 c49 c50 c51 c52 c53 c54 c55 c56 c57 c58 c59 c60 c61 c62 c63 c64 c65 c66 c67 c68 c69 c70 c71 c72 c73 c74 c75 c76 c77 c78 c79 c80 c81 c82 c83 c84 c85 c86 c87 c88 c89 c90 c91 c92 c93 c94 c95 c96 c97 c98 c99 c100 c101 c102 c103 c104 c105 c106 c107 c108 c109 c110 c111 c112 c113 c114 c115 c116 c117 c118 c119 c120 c121 c122 c123 c124 c125 c126 c127 c128 c129 c130 c131 c132 c133 c134 c135 c136 c137 c138 c139 c140 c141 c142 c143 c144 c145 c146 c147 c148 c149 c150 c151 c152 c153 c154 c155 c156 c157 c158 c159 c160 c161 c162 c163 c164 c165 c166 c167 c168 c169 c170 c171 c172 c173 c174 c175 c176 c177 c178 c179 c180 c181 c182 c183 c184 c185 c186 c187 c188 c189 c190 c191 c192 c193 c194 c195 c196 c197 c198 c199 c200 c201 c202 c203 c204 c205 c206 c207 c208 c209 c210 c211 c212 c213 c214 c215 c216 c217 c218 c219 c220 c221 c222 c223 c224 c225 c226 c227 c228 c229 c230 c231 c232 c233 c234 c235 c236 c237 c238 c239 c240 c241 c242 c243 c244 c245 c246 c247 c248 c249 c250 c251 c252 c253 c254 c255 c256 c257 c258 c259 c260 c261 c262 c263 c264 c265 c266 c267 c268 c269 c270 c271 c272 c273 c274 c275 c276 c277 c278 c279 c280 c281 c282 c283 c284 c285 c286 c287 c288 c289 c290 c291 c292 c293 c294 c295 c296 c297 c298 c299 c300 c301 c302 c303 c304 c305 c306 c307 c308 c309 c310 c311 c312 c313 c314 c315 c316 c317 c318 c319 c320 c321 c322 c323 c324 c325 c326 c327 c328 c329 c330 c331 c332 c333 c334 c335 c336 c337 c338 c339 c340 c341 c342 c343 c344 c345 c346 c347 c348 c349 c350 c351 c352 c353 c354 c355 c356 c357 c358 c359 c360 c361 c362 c363:Value}
 (K:∀ (d25 d26 d160 d161 d162 d163 d164 d165 d166 d167 d168 d169 d170 d171 d172 d173 d174 d175 d176 d177 d178 d179:Value) (V:World),RowE (WrV n0 n1 w0) 40 Wb.heap.size V d25 (na+nm)∧Below Wb.heap.size Wb V→Code.wp Tryz.prog (spine 13 (Tryz.f5.body.getD .skip)) Qf ⟨#[c0,c1,c2,c3,c4,c5,c6,c7,c8,c9,c10,c11,c12,c13,c14,c15,.slice am nm cm,c17,c18,c19,c20,c21,c22,c23,c24,d25,d26,c27,c28,c29,c30,c31,c32,c33,c34,c35,c36,c37,c38,c39,c40,c41,c42,c43,c44,c45,c46,c47,c48,c49,c50,c51,c52,c53,c54,c55,c56,c57,c58,c59,c60,c61,c62,c63,c64,c65,c66,c67,c68,c69,c70,c71,c72,c73,c74,c75,c76,c77,c78,c79,c80,c81,c82,c83,c84,c85,c86,c87,c88,c89,c90,c91,c92,c93,c94,c95,c96,c97,c98,c99,c100,c101,c102,c103,c104,c105,c106,c107,c108,c109,c110,c111,c112,c113,c114,c115,c116,c117,c118,c119,c120,c121,c122,c123,c124,c125,c126,c127,c128,c129,c130,c131,c132,c133,c134,c135,c136,c137,c138,c139,c140,c141,c142,c143,c144,c145,c146,c147,c148,c149,c150,c151,c152,c153,c154,c155,c156,c157,c158,c159,d160,d161,d162,d163,d164,d165,d166,d167,d168,d169,d170,d171,d172,d173,d174,d175,d176,d177,d178,d179,c180,c181,c182,c183,c184,c185,c186,c187,c188,c189,c190,c191,c192,c193,c194,c195,c196,c197,c198,c199,c200,c201,c202,c203,c204,c205,c206,c207,c208,c209,c210,c211,c212,c213,c214,c215,c216,c217,c218,c219,c220,c221,c222,c223,c224,c225,c226,c227,c228,c229,c230,c231,c232,c233,c234,c235,c236,c237,c238,c239,c240,c241,c242,c243,c244,c245,c246,c247,c248,c249,c250,c251,c252,c253,c254,c255,c256,c257,c258,c259,c260,c261,c262,c263,c264,c265,c266,c267,c268,c269,c270,c271,c272,c273,c274,c275,c276,c277,c278,c279,c280,c281,c282,c283,c284,c285,c286,c287,c288,c289,c290,c291,c292,c293,c294,c295,c296,c297,c298,c299,c300,c301,c302,c303,c304,c305,c306,c307,c308,c309,c310,c311,c312,c313,c314,c315,c316,c317,c318,c319,c320,c321,c322,c323,c324,c325,c326,c327,c328,c329,c330,c331,c332,c333,c334,c335,c336,c337,c338,c339,c340,c341,c342,c343,c344,c345,c346,c347,c348,c349,c350,c351,c352,c353,c354,c355,c356,c357,c358,c359,c360,c361,c362,c363],[]⟩ V) :
 Code.wp Tryz.prog (spine 12 (Tryz.f5.body.getD .skip)) Qf ⟨#[c0,c1,c2,c3,c4,c5,c6,c7,c8,c9,c10,c11,c12,c13,c14,c15,.slice am nm cm,c17,c18,c19,c20,c21,c22,c23,c24,va,c26,c27,c28,c29,c30,c31,c32,c33,c34,c35,c36,c37,c38,c39,c40,c41,c42,c43,c44,c45,c46,c47,c48,c49,c50,c51,c52,c53,c54,c55,c56,c57,c58,c59,c60,c61,c62,c63,c64,c65,c66,c67,c68,c69,c70,c71,c72,c73,c74,c75,c76,c77,c78,c79,c80,c81,c82,c83,c84,c85,c86,c87,c88,c89,c90,c91,c92,c93,c94,c95,c96,c97,c98,c99,c100,c101,c102,c103,c104,c105,c106,c107,c108,c109,c110,c111,c112,c113,c114,c115,c116,c117,c118,c119,c120,c121,c122,c123,c124,c125,c126,c127,c128,c129,c130,c131,c132,c133,c134,c135,c136,c137,c138,c139,c140,c141,c142,c143,c144,c145,c146,c147,c148,c149,c150,c151,c152,c153,c154,c155,c156,c157,c158,c159,c160,c161,c162,c163,c164,c165,c166,c167,c168,c169,c170,c171,c172,c173,c174,c175,c176,c177,c178,c179,c180,c181,c182,c183,c184,c185,c186,c187,c188,c189,c190,c191,c192,c193,c194,c195,c196,c197,c198,c199,c200,c201,c202,c203,c204,c205,c206,c207,c208,c209,c210,c211,c212,c213,c214,c215,c216,c217,c218,c219,c220,c221,c222,c223,c224,c225,c226,c227,c228,c229,c230,c231,c232,c233,c234,c235,c236,c237,c238,c239,c240,c241,c242,c243,c244,c245,c246,c247,c248,c249,c250,c251,c252,c253,c254,c255,c256,c257,c258,c259,c260,c261,c262,c263,c264,c265,c266,c267,c268,c269,c270,c271,c272,c273,c274,c275,c276,c277,c278,c279,c280,c281,c282,c283,c284,c285,c286,c287,c288,c289,c290,c291,c292,c293,c294,c295,c296,c297,c298,c299,c300,c301,c302,c303,c304,c305,c306,c307,c308,c309,c310,c311,c312,c313,c314,c315,c316,c317,c318,c319,c320,c321,c322,c323,c324,c325,c326,c327,c328,c329,c330,c331,c332,c333,c334,c335,c336,c337,c338,c339,c340,c341,c342,c343,c344,c345,c346,c347,c348,c349,c350,c351,c352,c353,c354,c355,c356,c357,c358,c359,c360,c361,c362,c363],[]⟩ W:=by
 have HM:=hid hM
 have HH:=hid h
 have HB:=hid hB
 conv=>arg 2;whnf
 apply wp_seq_k
 intro Kn hKn
 have HK:=hid (fun d25 d26 d160 d161 d162 d163 d164 d165 d166 d167 d168 d169 d170 d171 d172 d173 d174 d175 d176 d177 d178 d179 V hV=>hKn _ _ (K d25 d26 d160 d161 d162 d163 d164 d165 d166 d167 d168 d169 d170 d171 d172 d173 d174 d175 d176 d177 d178 d179 V hV))
 clear K hM hKn h hB
 have hn':(nm:Int)≤100000:=by omega
 go_wp2
 go_loopw [25,26] (fun ov v wr=>∃ k:Nat,k≤nm∧v = .int .i64 (k:Int)∧Hid (RowE (WrV n0 n1 w0) 40 Wb.heap.size wr ov (na+k))∧Hid (Below Wb.heap.size Wb wr)) (fun _ v _=>nm - (intOf v).toNat)
 case atStart=>exact ⟨0,Nat.zero_le _,rfl,HM,HB⟩
 case round =>
  obtain ⟨k,hk,rfl,hN,hBr⟩:=hrel
  by_cases hlt:k < nm
  ·have hNl:=hN.out
   obtain ⟨va',vc',rfl,_⟩:=hNl.slice
   have hlt':(k:Int) < (nm:Int):=by omega
   have hk0:(0:Int)≤(k:Int):=by omega
   obtain ⟨g,cap,aL,nL,cL,aR,nR,cR,e,hg,c1,c2,iL,iR⟩:=HH.out.elem hlt
   cases e
   have hA3:=hBr.out.alloc hBr.out.size (.cells #[.slice aL nL cL,.slice aR nR cR] 40)
   have hN4:Hid (∀ V:World,V.heap = (wr.alloc (.cells #[.slice aL nL cL,.slice aR nR cR] 40)).heap→RowE (WrV n0 n1 w0) 40 Wb.heap.size V (.slice va' (na+k) vc') (na+k)):=fun V hV=>hNl.keep fun b hb=>by rw [hV];exact Below.heap_alloc wr _ b hb
   have hblk0:Hid (∀ V:World,V.heap = (wr.alloc (.cells #[.slice aL nL cL,.slice aR nR cR] 40)).heap→V.cell? ⟨wr.heap.size,0,none⟩ = some (.slice aL nL cL)):=fun V hV=>(cell_at (show V.heap[wr.heap.size]? = _ by rw [hV];exact World.alloc_heap_new wr _) 0).trans rfl
   have hblk1:Hid (∀ V:World,V.heap = (wr.alloc (.cells #[.slice aL nL cL,.slice aR nR cR] 40)).heap→V.cell? ⟨wr.heap.size,1,none⟩ = some (.slice aR nR cR)):=fun V hV=>(cell_at (show V.heap[wr.heap.size]? = _ by rw [hV];exact World.alloc_heap_new wr _) 1).trans rfl
   have hSw:=hid (fun (V:World) (hV:∀ b,b < Wb.heap.size→V.heap[b]? = Wb.heap[b]?)=>(show V.cell? ⟨g,k * 2,none⟩ = some (.slice aL nL cL)∧V.cell? ⟨g,k * 2+1,none⟩ = some (.slice aR nR cR) from ⟨(World.cell?_of_block (a:=⟨g,k * 2,none⟩) (hV g hg)).trans c1,(World.cell?_of_block (a:=⟨g,k * 2+1,none⟩) (hV g hg)).trans c2⟩))
   have hS0:=hSw.out wr hBr.out.block
   have hSd:=hSw.out wr.drew hBr.out.block
   have hS4:=hid (fun (V:World) (hV:V.heap = (wr.alloc (.cells #[.slice aL nL cL,.slice aR nR cR] 40)).heap)=>hSw.out V fun b hb=>by rw [hV];exact hA3.block b hb)
   have hS5:=hid (fun (V V':World) (hV:V.heap = (wr.alloc (.cells #[.slice aL nL cL,.slice aR nR cR] 40)).heap) (hB:Below Wb.heap.size V V')=>hSw.out V' fun b hb=>(hB.block b hb).trans (by rw [hV];exact hA3.block b hb))
   have hbs:=hBr.out.size
   have HA3:=hid hA3
   clear hA3 hN c1 c2 hNl
   go_wp2_with fail
   go_region_held3 (fun w'=>w'.cell? ⟨g,k * 2,none⟩ = some (.slice aL nL cL)∧w'.cell? ⟨g,k * 2+1,none⟩ = some (.slice aR nR cR)) (first | assumption | exact hS0 | exact hSd | exact hS4.out _ (by rfl))
    ((refine step_app_e (fun _ h=>WrV.one h) _ (by rfl) _ _ (by rfl) Wb.heap.size (.slice va' (na+k) vc') (na+k) (by rfl) (hN4.out _ (by rfl)) wr.heap.size (.slice aL nL cL) (.slice aR nR cR) (by rfl) (hblk0.out _ (by rfl)) (hblk1.out _ (by rfl)) iL iR (by omega) (by simp;omega) ?_;intro gg cc w5 hN5 hB5;have s5:=hS5.out _ _ (by rfl) hB5))
   all_goals (
    have HB5:Hid (Below Wb.heap.size Wb w5):=by first | exact (below_drewN HA3.out 1).trans hB5 | exact HA3.out.trans hB5 | exact (HA3.out.drew).trans hB5
    have HN5:=hid hN5
    clear s5 hN5 hB5 hN4 hblk0 hblk1 iL iR hS4 hS5 hSw hS0 hSd
    go_wp2
    go_roundw
    case rel=>exact ⟨k+1,by omega,by go_num,HN5,HB5⟩
    case measure=>simp [intOf];omega)
  ·obtain rfl:k = nm:=by omega
   go_wp2
   exact HK.out _ _ _ _ _ _ _ _ _ _ _ _ _ _ _ _ _ _ _ _ _ _ _ ⟨hN.out,hBr.out⟩
theorem own_low {W:World} {b b':Nat} {e:TypeId} {k:Nat} {v:Value} {n:Nat} {us:List Value} (h:W.ownsRow b e k v n us) (hb:b'≤b):W.ownsRow b' e k v n us :=
 ⟨h.1,h.2.imp id fun ⟨g,cap,cur,h1,h2,r⟩=>⟨g,cap,cur,h1,Nat.le_trans hb h2,r⟩⟩
theorem NewT.low {W:World} {b b':Nat} {v:Value} {l:StepL} (h:NewT b W v l) (hb:b'≤b):NewT b' W v l:=by
 obtain ⟨us,h1,h2⟩:=h
 exact ⟨us,own_low h1 hb,fun j hj=>let ⟨u,q1,q2,q3,q4⟩:=h2 j hj;⟨u,q1,q2,q3,own_low q4 hb⟩⟩
theorem IntR.low {W:World} {b b':Nat} {a:Option Addr} {zs:List Int} (h:IntR false b W a zs) (hb:b'≤b):IntR false b' W a zs:=fun j hj=>by
 obtain ⟨g,off,e,hor,r⟩:=h j hj
 rcases hor with ⟨h1,_⟩ | ⟨h1 | ⟨h1,h2⟩,h3⟩
 ·cases h1
 ·cases h1
 ·exact ⟨g,off,e,.inr ⟨.inr ⟨Nat.le_trans hb h1,h2⟩,h3⟩,r⟩
theorem NewX.low {W:World} {e:TypeId} {sb b b':Nat} {v:Value} {l:PairL} (h:NewX false e sb b W v l) (hb:b'≤b):NewX false e sb b' W v l:=by
 obtain ⟨us,h1,h2⟩:=h
 exact ⟨us,h1,fun j hj=>let ⟨aL,cL,aR,cR,q1,q2,q3,q4,r⟩:=h2 j hj;⟨aL,cL,aR,cR,q1,q2,q3.low hb,q4.low hb,r⟩⟩
theorem NewT.lens {W:World} {b:Nat} {v:Value} {l:StepL} (h:NewT b W v l):l.length≤maxLen∧∀ j,j < l.length→(l[j]?.getD (0,0,[])).2.2.length≤maxLen:=by
 obtain ⟨us,h1,h2⟩:=h
 refine ⟨?_,fun j hj=>?_⟩
 ·rcases h1.2 with ⟨_,h0⟩ | ⟨g,cap,cur,_,_,_,q1,q2,_⟩
  ·omega
  ·omega
 ·obtain ⟨u,_,_,_,hu⟩:=h2 j hj
  obtain ⟨_,_,_,_,q1,q2⟩:=New.ints hu
  omega
theorem NewS.midS {n0 n1:Nat} {w W:World} {v:Value} {ss:List (List Int)} (h:NewS n1 w v ss) (hM:Mid n0 n1 w W):NewS n1 W v ss:=by
 obtain ⟨us,h1,h2⟩:=h
 have hk:∀ {e k v n us},w.ownsRow n1 e k v n us→W.ownsRow n1 e k v n us:=fun h=>own_keep h fun q hq=>hM.high (World.ownsRow.lt h q hq).1 (World.ownsRow.lt h q hq).2
 exact ⟨us,hk h1,fun j hj=>let ⟨u,q1,q2⟩:=h2 j hj;⟨u,q1,hk q2⟩⟩
set_option maxRecDepth 100000 in
set_option maxHeartbeats 8000000 in
theorem rt4 {w W:World} {a0 x3 aP aQ:Option Addr} {cap0 cap1 cap2 bt ot be oe bP oP bQ oQ cP cQ k3 k4 n4 d4:Nat} {rs:RuleL} {ps:PairL} {t P Q:List Int}
 (I:InR w a0 cap0 rs bt ot cap1 t be oe cap2 ps bP oP cP P bQ oQ cQ Q) (B:Below w.heap.size w W) (hw:Ints W.heap.size W x3 t) (hf:W.cell? ⟨k4,0,none⟩ = some (.slice aP P.length n4)∧W.cell? ⟨k4,1,none⟩ = some (.slice aQ Q.length d4)∧k4 < W.heap.size) (iP:Ints W.heap.size W aP P) (iQ:Ints W.heap.size W aQ Q) {c3 c4 c5 c6 c9 c10 c11 c12 c13 c14 c15 c16 c17 c18 c19 c20 c21 c22 c23 c24 c25 c26 c27 c28 c29 c30 c31 c32 c33 c34 c35 c36 c37 c38 c39 c40 c41 c42 c43 c44 c45 c46 c47 c48 c49 c50 c51 c52 c53 c54 c55 c56 c57 c58 c59 c60 c61 c62 c63 c64 c65 c66 c67 c68 c69 c70 c71 c72 c73 c74 c75 c76 c77 c78 c79 c80 c81 c82 c83 c84 c85 c86 c87 c88 c89 c90 c91 c92 c93 c94 c95 c96 c97 c98 c99 c100 c101 c102 c103 c104 c105 c106 c107 c108 c109 c110 c111 c112 c113 c114 c115 c116 c117 c118 c119 c120 c121 c122 c123 c124 c125 c126 c127 c128 c129 c130 c131 c132 c133 c134 c135 c136 c137 c138 c139 c140 c141 c142 c143 c144 c145 c146 c147 c148 c149 c150 c151 c152 c153 c154 c155 c156 c157 c158 c159 c160 c161 c162 c163 c164 c165 c166 c167 c168 c169 c170 c171 c172 c173 c174 c175 c176 c177 c178 c179 c180 c181 c182 c183 c184 c185 c186 c187 c188 c189 c190 c191 c192 c193 c194 c195 c196 c197 c198 c199 c200 c201 c202 c203 c204 c205 c206 c207 c208 c209 c210 c211 c212 c213 c214 c215 c216 c217 c218 c219 c220 c221 c222 c223 c224 c225 c226 c227 c228 c229 c230 c231 c232 c233 c234 c235 c236 c237 c238 c239 c240 c241 c242 c243 c244 c245 c246 c247 c248 c249 c250 c251 c252 c253 c254 c255 c256 c257 c258 c259 c260 c261 c262 c263 c264 c265 c266 c267 c268 c269 c270 c271 c272 c273 c274 c275 c276 c277 c278 c279 c280 c281 c282 c283 c284 c285 c286 c287 c288 c289 c290 c291 c292 c293 c294 c295 c296 c297 c298 c299 c300 c301 c302 c303 c304 c305 c306 c307 c308 c309 c310 c311 c312 c313 c314 c315 c316 c317 c318 c319 c320 c321 c322 c323 c324 c325 c326 c327 c328 c329 c330 c331 c332 c333 c334 c335 c336 c337 c338 c339 c340 c341 c342 c343 c344 c345 c346 c347 c348 c349 c350 c351 c352 c353 c354 c355 c356 c357 c358 c359 c360 c361 c362 c363:Value} :
 Code.wp Tryz.prog (spine 4 (Tryz.f5.body.getD .skip)) (bodyPost Tryz.prog Tryz.f5 fun e w'=>e = .returned (.bool true)∧Below w.heap.size w w') ⟨#[.slice a0 rs.length cap0,.slice (some ⟨bt,ot,none⟩) t.length cap1,.slice (some ⟨be,oe,none⟩) ps.length cap2,c3,c4,c5,c6,.slice x3 t.length k3,.pointer (some ⟨k4,0,none⟩),c9,c10,c11,c12,c13,c14,c15,c16,c17,c18,c19,c20,c21,c22,c23,c24,c25,c26,c27,c28,c29,c30,c31,c32,c33,c34,c35,c36,c37,c38,c39,c40,c41,c42,c43,c44,c45,c46,c47,c48,c49,c50,c51,c52,c53,c54,c55,c56,c57,c58,c59,c60,c61,c62,c63,c64,c65,c66,c67,c68,c69,c70,c71,c72,c73,c74,c75,c76,c77,c78,c79,c80,c81,c82,c83,c84,c85,c86,c87,c88,c89,c90,c91,c92,c93,c94,c95,c96,c97,c98,c99,c100,c101,c102,c103,c104,c105,c106,c107,c108,c109,c110,c111,c112,c113,c114,c115,c116,c117,c118,c119,c120,c121,c122,c123,c124,c125,c126,c127,c128,c129,c130,c131,c132,c133,c134,c135,c136,c137,c138,c139,c140,c141,c142,c143,c144,c145,c146,c147,c148,c149,c150,c151,c152,c153,c154,c155,c156,c157,c158,c159,c160,c161,c162,c163,c164,c165,c166,c167,c168,c169,c170,c171,c172,c173,c174,c175,c176,c177,c178,c179,c180,c181,c182,c183,c184,c185,c186,c187,c188,c189,c190,c191,c192,c193,c194,c195,c196,c197,c198,c199,c200,c201,c202,c203,c204,c205,c206,c207,c208,c209,c210,c211,c212,c213,c214,c215,c216,c217,c218,c219,c220,c221,c222,c223,c224,c225,c226,c227,c228,c229,c230,c231,c232,c233,c234,c235,c236,c237,c238,c239,c240,c241,c242,c243,c244,c245,c246,c247,c248,c249,c250,c251,c252,c253,c254,c255,c256,c257,c258,c259,c260,c261,c262,c263,c264,c265,c266,c267,c268,c269,c270,c271,c272,c273,c274,c275,c276,c277,c278,c279,c280,c281,c282,c283,c284,c285,c286,c287,c288,c289,c290,c291,c292,c293,c294,c295,c296,c297,c298,c299,c300,c301,c302,c303,c304,c305,c306,c307,c308,c309,c310,c311,c312,c313,c314,c315,c316,c317,c318,c319,c320,c321,c322,c323,c324,c325,c326,c327,c328,c329,c330,c331,c332,c333,c334,c335,c336,c337,c338,c339,c340,c341,c342,c343,c344,c345,c346,c347,c348,c349,c350,c351,c352,c353,c354,c355,c356,c357,c358,c359,c360,c361,c362,c363],[]⟩ W:=by
 have cF:=hid (form_any rs t a0 (some ⟨bt,ot,none⟩) cap0 cap1 W (I.R W B) (I.T W B) I.ht.1 I.ht.2.1)
 conv=>arg 2;whnf
 go_wp2_with fail
 refine cF.out.mono ?_
 clear cF
 rintro e V5 ⟨vx,rfl,nx,b5⟩
 have B5:=B.trans (b5.mono B.size)
 have cS:=hid (steps_any rs t a0 (some ⟨bt,ot,none⟩) cap0 cap1 V5 (I.R V5 B5) (I.T V5 B5) I.ht.1 I.ht.2.1)
 go_wp2_with fail
 refine cS.out.mono ?_
 clear cS
 rintro e V6 ⟨vs,rfl,ns,b6⟩
 have B6:=B5.trans (b6.mono B5.size)
 have cA:=hid (AllP_any rs a0 cap0 V6 (I.R V6 B6) (Nat.le_trans I.hr.1 I.hr.2.1))
 go_wp2_with fail
 refine cA.out.mono ?_
 clear cA
 rintro e V7 ⟨er7,ps7,vp,says7,rfl,np,b7⟩
 have B7:=B6.trans (b7.mono B6.size)
 go_wp2_with fail
 refine (rank_any V7).mono ?_
 rintro e V8 ⟨ak,rfl,ik,b8⟩
 have B8:=B7.trans (b8.mono B7.size)
 have cU:=hid (Turn_any rk6 rs ps ak a0 (some ⟨be,oe,none⟩) 6 cap0 cap2 V8 ik (I.R V8 B8) (I.E V8 B8) I.he.1 I.he.2.1)
 go_wp2_with fail
 refine cU.out.mono ?_
 clear cU
 rintro e V9 ⟨er9,rs9,ps9,vm,vq,says9,rfl,nm,nq,b9⟩
 have B9:=B8.trans (b9.mono B8.size)
 have hposN:0 < ps.length:=I.he.2.2
 have hpos:(0:Int) < (ps.length:Int):=by omega
 have hS9:=hid (fun V (hV:Below V9.heap.size V9 V)=>I.cl V (B9.trans (hV.mono B9.size)))
 have cM:=hid (fun V (hV:Below V9.heap.size V9 V)=>MeetOf_any P Q (some ⟨bP,oP,none⟩) (some ⟨bQ,oQ,none⟩) cP cQ V (I.iP V (B9.trans (hV.mono B9.size))) (I.iQ V (B9.trans (hV.mono B9.size))) I.hp.1 I.hp.2.1 I.hq.1 I.hq.2.1)
 have d8:=b8.trans (b9.mono b8.size)
 have d7:=b7.trans (d8.mono b7.size)
 have d6:=b6.trans (d7.mono b6.size)
 have d5:=b5.trans (d6.mono b5.size)
 obtain ⟨ax,cx,rfl,_,mx,mx'⟩:=New.ints nx
 have Hd5:=hid d5
 have Hd6:=hid d6
 have Hd7:=hid d7
 have Hd8:=hid d8
 have Hb9:=hid b9
 have Hnx:=hid nx
 have Hns:=hid (ns.low b5.size)
 have Hnp:=hid (NewP.x (fl:=false) (eb:=W.heap.size) np (.inr (Nat.le_trans b5.size b6.size)))
 have hW8:W.heap.size≤V8.heap.size:=Nat.le_trans b5.size (Nat.le_trans b6.size (Nat.le_trans b7.size b8.size))
 have Hnm:=hid (nm.low hW8)
 have Hnq:=hid (nq.low hW8)
 have HI:=hid I
 have HB9:=hid B9
 have Hs7:=hid says7
 have Hs9:=hid says9
 have Hw:=hid hw
 have Hf:=hid hf
 have HP:=hid iP
 have HQ:=hid iQ
 have HBW:=hid B
 clear nx ns np nm nq d5 d6 d7 d8 b5 b6 b7 b8 b9 B B5 B6 B7 B8 B9 I says7 says9 ik hw hf iP iQ
 go_upto_region 9 with fail
 rename_i Kn hKn
 go_cut [19,20,21] (fun x y z wx=>∃ er is val,y = .bool is∧Hid (Tm.MeetSays [(P,Q)] er is val)∧Hid (NewS V9.heap.size wx x val)∧Below V9.heap.size V9 wx)
 case first =>
  go_region_held3 (fun w'=>w'.cell? ⟨be,oe,none⟩ = some (.slice (some ⟨bP,oP,none⟩) P.length cP)∧w'.cell? ⟨be,oe+1,none⟩ = some (.slice (some ⟨bQ,oQ,none⟩) Q.length cQ)) (first | assumption | exact hS9.out _ (below_drewN (Below.refl _ V9) 1) | exact hS9.out _ b10)
   ((go_at_call 21;refine (cM.out _ (below_drewN (Below.refl _ V9) 1)).mono ?_;rintro e V10 ⟨b10',er,is,val,vu,sM,rfl,nu⟩;have b10:=(below_drewN (Below.refl _ V9) 1).trans b10'))
  all_goals (
   have HsM:=hid sM
   have Hnu:=hid nu
   clear sM nu
   go_wp2_with fail
   go_meet
   exact ⟨er,is,val,rfl,HsM,Hnu,b10⟩)
 case rest =>
  obtain ⟨er,is,val,rfl,sM,nu,b10⟩:=hcut
  refine hKn _ _ ?_
  clear hKn Kn cM hS9
  have e0:=Hd5.out.trans (b10.mono Hd5.out.size)
  have e5:=Hd6.out.trans (b10.mono Hd6.out.size)
  have e6:=Hd7.out.trans (b10.mono Hd7.out.size)
  have e7:=Hd8.out.trans (b10.mono Hd8.out.size)
  have l7:=Hs7.out.lens
  have l9:=Tm.turn_lens Hs9.out
  have l71:=l7.1
  have l91:=l9.1.1
  have l92:=l9.2.1
  obtain ⟨_,_,e,wx⟩:=New.wr (n1:=V9.heap.size) Hnx.out Hd6.out.size e5
  cases e
  have lS:=Hns.out.lens
  obtain ⟨asl,cs,rfl,ws⟩:=NewT.mid (n1:=V9.heap.size) Hns.out Hd7.out.size e6
  obtain ⟨am,cm,rfl⟩:=Hnm.out.slice
  obtain ⟨au,cu,rfl,_⟩:=NewS.subs nu.out
  refine rt9 wx (Nat.le_trans mx mx') (Mid.refl W.heap.size V9.heap.size wc) (fun _ _ _ _ _ _ _ _ _ _ V10 hM10=>?_)
  refine rt10 (len:=fun j=>((Tm.stepVal rs t)[j]?.getD (0,0,[])).2.2.length) ws lS.1 lS.2 hM10 (fun _ _ _ _ _ _ _ _ _ _ _ _ _ _ _ _ _ _ _ _ _ _ _ _ _ V11 hM11=>?_)
  have rp:=Hnp.out.rowE (by decide) Hd8.out.size e7 hM11
  have rq:=Hnq.out.rowE (by decide) (Nat.le_refl _) b10 hM11
  have rm:=Hnm.out.rowE (by decide) (Nat.le_refl _) b10 hM11
  refine rt11 (fun _ h=>WrV.one h) rp rq (by omega) (fun _ _ _ _ _ _ V12 h12=>?_)
  refine rt12 rm h12.1 h12.2 (by omega) (fun d25 _ _ _ _ _ _ _ _ _ _ _ _ _ _ _ _ _ _ _ _ _ V13 h13=>?_)
  have hM13:=hM11.below e0.size h13.2
  obtain ⟨l1,l2,hlen,aa,ca,rfl,hna,hrow⟩:=h13.1.mid (by decide) hM13
  refine rt13 hrow hna hlen (Mid.refl W.heap.size V9.heap.size V13) (fun _ _ _ _ _ _ _ _ _ _ _ _ _ _ _ _ _ _ _ _ _ _ _ _ _ _ _ _ _ _ _ _ _ _ _ _ _ _ _ _ _ _ _ V14 hM14=>?_)
  have hM:=hM13.trans hM14
  have bW:=e0.trans hM.low
  have hlt:=Hf.out.2.2
  have hsz:=bW.size
  obtain ⟨_,_,e,su,_⟩:=NewS.subs (nu.out.midS hM)
  cases e
  exact rt14 HI.out (HBW.out.trans (bW.mono HBW.out.size)) ⟨Hw.out.at2 bW,⟨(bW.cell (p:=⟨k4,0,none⟩) hlt).trans Hf.out.1,(bW.cell (p:=⟨k4,1,none⟩) hlt).trans Hf.out.2.1,by omega⟩,HP.out.at2 bW,HQ.out.at2 bW,Hs7.out,Hs9.out,sM.out,su⟩
end Go.Proofs.YtglohanbpjaieaaGreat
