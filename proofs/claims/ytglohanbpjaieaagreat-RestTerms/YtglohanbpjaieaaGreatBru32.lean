/-
  Parts of the proof: Rst7, Rst3b, Rst10, Rst11.
-/
import Derived.Test.YtglohanbpjaieaaGreatBru31
set_option maxHeartbeats 8000000
set_option maxRecDepth 100000
namespace Go.Proofs.YtglohanbpjaieaaGreat
open Go.Proofs Go.RowKit Go.Shelf Go.Maps Go.Deep
section
variable {c0 c1 c2 c3 c4 c5 c6 c7 c8 c9 c10 c11 c12 c13 c14 c15 c16 c17 c18 c19 c20 c21 Pt c23 c24 Vj Pv Pw c28 Px MU c31 c32 MV c34 MW MX c37 MZ M0 c40 Jl M5 M7 M8 Nb c46 Nc Nf c49 Ng c51 Nh c53 Ni Nj Nk Nl Nn c59 Np Nq Nr Ns c64 Nt Nu Nv Nw Ny c70 Nz c72 NA NB c75 c76 NC ND NF c80 NG NH NI NJ c85 NK c87 NL NM NN c91 NP c93 NQ NR NS NT NU NV sS sU sV sW sZ c105 tq c107 tu c109 tC tF tH tJ tK tL c116 c117 tN c119 tO tQ tT zL c124 zM zN c127 zO zQ c130 c131 zS zT zU zV zX zY c138 c139 zZ c141 z8 c143 Aa c145 c146 Ab c148 Ac Ad Ae c152 Af c154 Ag c156 c157 Ah c159 c160 Ai c162 Aj c164 Ak Al c167 c168 Am Ao c171 Ap c173 Aq c175 Ar Au Av Aw Ay Az c182 c183 AA AB AJ AL AO AP AQ AR AU c193 c194 AV c196 AZ c198 A7 A8 c201 A9 c203 Bb Bc c206 Be c208 Bg c210 Bh c212 c213 Bi Bj Bl Bn c218 Bo tV tX c222 tY tZ uf c226 c227 c228 c229 ug uh c232 c233 c234 ui c236 uj uk um uo uq uu uw uy uz uA uB uC uD uE uF uG uH uI uJ uK uM uN uO uP uQ uS uT uU uV uW uX uY uZ ve vg vB vD vE vF vG vH vI vJ vK vM vO vQ vS vT vU vV vW vX vY vZ wh wm wo wu wy wz wB wC wD wE wF wG wH wI wJ wK wM wN wO wQ wS wT wU wV wW wX wY wZ xg xh xk xm xn xq xu xw xx xy xz xA xB xC xD xE xG xH xI xJ xK xM xN xO xQ xS xU xV xW xX xY xZ yf yg yh yj yl ym yn yo yt yu yw yx:Value}
theorem rt9 {n0 n1:Nat} {W0 W:World} {ax:Option Addr} {nx cx:Nat} {Qf:Exit→Act→World→Prop} (h:Gm n0 n1 W0 ax nx) (hn:nx≤maxLen) (hM:Mid n0 n1 W0 W) 
 (K:∀ (d22 d123 d124 d125 d126 d127 d128 d129 d130 d131:Value) (V:World),Mid n0 n1 W0 V→Code.wp Tryz.prog (spine 10 (Tryz.f5.body.getD .skip)) Qf ⟨#[c0,c1,c2,c3,c4,c5,c6,c7,c8,.slice ax nx cx,c10,c11,c12,c13,c14,c15,c16,c17,c18,c19,c20,c21,d22,c23,c24,Vj,Pv,Pw,c28,Px,MU,c31,c32,MV,c34,MW,MX,c37,MZ,M0,c40,Jl,M5,M7,M8,Nb,c46,Nc,Nf,c49,Ng,c51,Nh,c53,Ni,Nj,Nk,Nl,Nn,c59,Np,Nq,Nr,Ns,c64,Nt,Nu,Nv,Nw,Ny,c70,Nz,c72,NA,NB,c75,c76,NC,ND,NF,c80,NG,NH,NI,NJ,c85,NK,c87,NL,NM,NN,c91,NP,c93,NQ,NR,NS,NT,NU,NV,sS,sU,sV,sW,sZ,c105,tq,c107,tu,c109,tC,tF,tH,tJ,tK,tL,c116,c117,tN,c119,tO,tQ,tT,d123,d124,d125,d126,d127,d128,d129,d130,d131,zS,zT,zU,zV,zX,zY,c138,c139,zZ,c141,z8,c143,Aa,c145,c146,Ab,c148,Ac,Ad,Ae,c152,Af,c154,Ag,c156,c157,Ah,c159,c160,Ai,c162,Aj,c164,Ak,Al,c167,c168,Am,Ao,c171,Ap,c173,Aq,c175,Ar,Au,Av,Aw,Ay,Az,c182,c183,AA,AB,AJ,AL,AO,AP,AQ,AR,AU,c193,c194,AV,c196,AZ,c198,A7,A8,c201,A9,c203,Bb,Bc,c206,Be,c208,Bg,c210,Bh,c212,c213,Bi,Bj,Bl,Bn,c218,Bo,tV,tX,c222,tY,tZ,uf,c226,c227,c228,c229,ug,uh,c232,c233,c234,ui,c236,uj,uk,um,uo,uq,uu,uw,uy,uz,uA,uB,uC,uD,uE,uF,uG,uH,uI,uJ,uK,uM,uN,uO,uP,uQ,uS,uT,uU,uV,uW,uX,uY,uZ,ve,vg,vB,vD,vE,vF,vG,vH,vI,vJ,vK,vM,vO,vQ,vS,vT,vU,vV,vW,vX,vY,vZ,wh,wm,wo,wu,wy,wz,wB,wC,wD,wE,wF,wG,wH,wI,wJ,wK,wM,wN,wO,wQ,wS,wT,wU,wV,wW,wX,wY,wZ,xg,xh,xk,xm,xn,xq,xu,xw,xx,xy,xz,xA,xB,xC,xD,xE,xG,xH,xI,xJ,xK,xM,xN,xO,xQ,xS,xU,xV,xW,xX,xY,xZ,yf,yg,yh,yj,yl,ym,yn,yo,yt,yu,yw,yx],[]⟩ V) :
 Code.wp Tryz.prog (spine 9 (Tryz.f5.body.getD .skip)) Qf ⟨#[c0,c1,c2,c3,c4,c5,c6,c7,c8,.slice ax nx cx,c10,c11,c12,c13,c14,c15,c16,c17,c18,c19,c20,c21,Pt,c23,c24,Vj,Pv,Pw,c28,Px,MU,c31,c32,MV,c34,MW,MX,c37,MZ,M0,c40,Jl,M5,M7,M8,Nb,c46,Nc,Nf,c49,Ng,c51,Nh,c53,Ni,Nj,Nk,Nl,Nn,c59,Np,Nq,Nr,Ns,c64,Nt,Nu,Nv,Nw,Ny,c70,Nz,c72,NA,NB,c75,c76,NC,ND,NF,c80,NG,NH,NI,NJ,c85,NK,c87,NL,NM,NN,c91,NP,c93,NQ,NR,NS,NT,NU,NV,sS,sU,sV,sW,sZ,c105,tq,c107,tu,c109,tC,tF,tH,tJ,tK,tL,c116,c117,tN,c119,tO,tQ,tT,zL,c124,zM,zN,c127,zO,zQ,c130,c131,zS,zT,zU,zV,zX,zY,c138,c139,zZ,c141,z8,c143,Aa,c145,c146,Ab,c148,Ac,Ad,Ae,c152,Af,c154,Ag,c156,c157,Ah,c159,c160,Ai,c162,Aj,c164,Ak,Al,c167,c168,Am,Ao,c171,Ap,c173,Aq,c175,Ar,Au,Av,Aw,Ay,Az,c182,c183,AA,AB,AJ,AL,AO,AP,AQ,AR,AU,c193,c194,AV,c196,AZ,c198,A7,A8,c201,A9,c203,Bb,Bc,c206,Be,c208,Bg,c210,Bh,c212,c213,Bi,Bj,Bl,Bn,c218,Bo,tV,tX,c222,tY,tZ,uf,c226,c227,c228,c229,ug,uh,c232,c233,c234,ui,c236,uj,uk,um,uo,uq,uu,uw,uy,uz,uA,uB,uC,uD,uE,uF,uG,uH,uI,uJ,uK,uM,uN,uO,uP,uQ,uS,uT,uU,uV,uW,uX,uY,uZ,ve,vg,vB,vD,vE,vF,vG,vH,vI,vJ,vK,vM,vO,vQ,vS,vT,vU,vV,vW,vX,vY,vZ,wh,wm,wo,wu,wy,wz,wB,wC,wD,wE,wF,wG,wH,wI,wJ,wK,wM,wN,wO,wQ,wS,wT,wU,wV,wW,wX,wY,wZ,xg,xh,xk,xm,xn,xq,xu,xw,xx,xy,xz,xA,xB,xC,xD,xE,xG,xH,xI,xJ,xK,xM,xN,xO,xQ,xS,xU,xV,xW,xX,xY,xZ,yf,yg,yh,yj,yl,ym,yn,yo,yt,yu,yw,yx],[]⟩ W:=by
 have HM:=hid hM;have HH:=hid h;have hn':(nx:Int)≤9223372036854775807:=by unfold maxLen at *;omega
 conv=>arg 2;whnf
 apply wp_seq_k;intro Kn hKn;have HK:=hid (fun d22 d123 d124 d125 d126 d127 d128 d129 d130 d131 V hV=>hKn _ _ (K d22 d123 d124 d125 d126 d127 d128 d129 d130 d131 V hV));clear K hM hKn;by_cases h0:nx = 0
 ·subst h0
  clear h;go_wp2;go_loopw [22] (fun v wr=>v = .int .i64 0∧wr = W) (fun _ _=>0)
  case atStart=>exact ⟨rfl,rfl⟩
  case round =>
   obtain ⟨rfl,rfl⟩:=hrel;go_wp2;exact HK.out _ _ _ _ _ _ _ _ _ _ _ HM.out
 ·obtain ⟨b,off,rfl,_⟩:=h 0 (by omega)
  clear h;go_wp2;go_loopw [22] (fun v wr=>∃ k:Nat,k≤nx∧v = .int .i64 (k:Int)∧Hid (Mid n0 n1 W0 wr)) (fun v _=>nx - (intOf v).toNat)
  case atStart=>exact ⟨0,Nat.zero_le _,rfl,HM⟩
  case round =>
   obtain ⟨k,hk,rfl,hr⟩:=hrel;by_cases hlt:k < nx
   ·have hlt':(k:Int) < (nx:Int):=by omega
    obtain ⟨b',off',e,hb,⟨z,hz⟩,hf⟩:=HH.out.at hr.out hlt;cases e;have Hb:=hid hb;clear hb;go_wp2;go_roundw
    case rel=>exact ⟨k+1,by omega,by go_num,hid (hr.out.set Hb.out _ _)⟩
    case measure=>simp [intOf];omega
   ·obtain rfl:k = nx:=by omega
    go_wp2;exact HK.out _ _ _ _ _ _ _ _ _ _ _ hr.out
theorem ahc {n0 n1:Nat} {W0 W:World} {asl:Option Addr} {ns cs:Nat} {len:Nat→Nat} {Qf:Exit→Act→World→Prop} (h:∀ X,Mid n0 n1 W0 X→∀ j,j < ns→∃ g ad c',asl = some ⟨g,0,none⟩∧X.cell? ⟨g,j * 3+2,none⟩ = some (.slice ad (len j) c')∧Gm n0 n1 W0 ad (len j)) (hn:ns≤maxLen) (hl:∀ j,j < ns→len j≤maxLen) (hM:Mid n0 n1 W0 W) 
 (K:∀ (d23 d24 d132 d133 d134 d135 d136 d137 d138 d139 d140 d141 d142 d143 d144 d145 d146 d147 d148 d149 d150 d151 d152 d153 d154:Value) (V:World),Mid n0 n1 W0 V→Code.wp Tryz.prog (spine 11 (Tryz.f5.body.getD .skip)) Qf ⟨#[c0,c1,c2,c3,c4,c5,c6,c7,c8,c9,c10,c11,.slice asl ns cs,c13,c14,c15,c16,c17,c18,c19,c20,c21,Pt,d23,d24,Vj,Pv,Pw,c28,Px,MU,c31,c32,MV,c34,MW,MX,c37,MZ,M0,c40,Jl,M5,M7,M8,Nb,c46,Nc,Nf,c49,Ng,c51,Nh,c53,Ni,Nj,Nk,Nl,Nn,c59,Np,Nq,Nr,Ns,c64,Nt,Nu,Nv,Nw,Ny,c70,Nz,c72,NA,NB,c75,c76,NC,ND,NF,c80,NG,NH,NI,NJ,c85,NK,c87,NL,NM,NN,c91,NP,c93,NQ,NR,NS,NT,NU,NV,sS,sU,sV,sW,sZ,c105,tq,c107,tu,c109,tC,tF,tH,tJ,tK,tL,c116,c117,tN,c119,tO,tQ,tT,zL,c124,zM,zN,c127,zO,zQ,c130,c131,d132,d133,d134,d135,d136,d137,d138,d139,d140,d141,d142,d143,d144,d145,d146,d147,d148,d149,d150,d151,d152,d153,d154,Ag,c156,c157,Ah,c159,c160,Ai,c162,Aj,c164,Ak,Al,c167,c168,Am,Ao,c171,Ap,c173,Aq,c175,Ar,Au,Av,Aw,Ay,Az,c182,c183,AA,AB,AJ,AL,AO,AP,AQ,AR,AU,c193,c194,AV,c196,AZ,c198,A7,A8,c201,A9,c203,Bb,Bc,c206,Be,c208,Bg,c210,Bh,c212,c213,Bi,Bj,Bl,Bn,c218,Bo,tV,tX,c222,tY,tZ,uf,c226,c227,c228,c229,ug,uh,c232,c233,c234,ui,c236,uj,uk,um,uo,uq,uu,uw,uy,uz,uA,uB,uC,uD,uE,uF,uG,uH,uI,uJ,uK,uM,uN,uO,uP,uQ,uS,uT,uU,uV,uW,uX,uY,uZ,ve,vg,vB,vD,vE,vF,vG,vH,vI,vJ,vK,vM,vO,vQ,vS,vT,vU,vV,vW,vX,vY,vZ,wh,wm,wo,wu,wy,wz,wB,wC,wD,wE,wF,wG,wH,wI,wJ,wK,wM,wN,wO,wQ,wS,wT,wU,wV,wW,wX,wY,wZ,xg,xh,xk,xm,xn,xq,xu,xw,xx,xy,xz,xA,xB,xC,xD,xE,xG,xH,xI,xJ,xK,xM,xN,xO,xQ,xS,xU,xV,xW,xX,xY,xZ,yf,yg,yh,yj,yl,ym,yn,yo,yt,yu,yw,yx],[]⟩ V) :
 Code.wp Tryz.prog (spine 10 (Tryz.f5.body.getD .skip)) Qf ⟨#[c0,c1,c2,c3,c4,c5,c6,c7,c8,c9,c10,c11,.slice asl ns cs,c13,c14,c15,c16,c17,c18,c19,c20,c21,Pt,c23,c24,Vj,Pv,Pw,c28,Px,MU,c31,c32,MV,c34,MW,MX,c37,MZ,M0,c40,Jl,M5,M7,M8,Nb,c46,Nc,Nf,c49,Ng,c51,Nh,c53,Ni,Nj,Nk,Nl,Nn,c59,Np,Nq,Nr,Ns,c64,Nt,Nu,Nv,Nw,Ny,c70,Nz,c72,NA,NB,c75,c76,NC,ND,NF,c80,NG,NH,NI,NJ,c85,NK,c87,NL,NM,NN,c91,NP,c93,NQ,NR,NS,NT,NU,NV,sS,sU,sV,sW,sZ,c105,tq,c107,tu,c109,tC,tF,tH,tJ,tK,tL,c116,c117,tN,c119,tO,tQ,tT,zL,c124,zM,zN,c127,zO,zQ,c130,c131,zS,zT,zU,zV,zX,zY,c138,c139,zZ,c141,z8,c143,Aa,c145,c146,Ab,c148,Ac,Ad,Ae,c152,Af,c154,Ag,c156,c157,Ah,c159,c160,Ai,c162,Aj,c164,Ak,Al,c167,c168,Am,Ao,c171,Ap,c173,Aq,c175,Ar,Au,Av,Aw,Ay,Az,c182,c183,AA,AB,AJ,AL,AO,AP,AQ,AR,AU,c193,c194,AV,c196,AZ,c198,A7,A8,c201,A9,c203,Bb,Bc,c206,Be,c208,Bg,c210,Bh,c212,c213,Bi,Bj,Bl,Bn,c218,Bo,tV,tX,c222,tY,tZ,uf,c226,c227,c228,c229,ug,uh,c232,c233,c234,ui,c236,uj,uk,um,uo,uq,uu,uw,uy,uz,uA,uB,uC,uD,uE,uF,uG,uH,uI,uJ,uK,uM,uN,uO,uP,uQ,uS,uT,uU,uV,uW,uX,uY,uZ,ve,vg,vB,vD,vE,vF,vG,vH,vI,vJ,vK,vM,vO,vQ,vS,vT,vU,vV,vW,vX,vY,vZ,wh,wm,wo,wu,wy,wz,wB,wC,wD,wE,wF,wG,wH,wI,wJ,wK,wM,wN,wO,wQ,wS,wT,wU,wV,wW,wX,wY,wZ,xg,xh,xk,xm,xn,xq,xu,xw,xx,xy,xz,xA,xB,xC,xD,xE,xG,xH,xI,xJ,xK,xM,xN,xO,xQ,xS,xU,xV,xW,xX,xY,xZ,yf,yg,yh,yj,yl,ym,yn,yo,yt,yu,yw,yx],[]⟩ W:=by
 have HM:=hid hM;have HH:=hid h;conv=>arg 2;whnf
 apply wp_seq_k;intro Kn hKn;have HK:=hid (fun d23 d24 d132 d133 d134 d135 d136 d137 d138 d139 d140 d141 d142 d143 d144 d145 d146 d147 d148 d149 d150 d151 d152 d153 d154 V hV=>hKn _ _ (K d23 d24 d132 d133 d134 d135 d136 d137 d138 d139 d140 d141 d142 d143 d144 d145 d146 d147 d148 d149 d150 d151 d152 d153 d154 V hV));clear K hM hKn h;have HL:=hid hl;clear hl;have hn':(ns:Int)≤9223372036854775807:=by unfold maxLen at *;omega
 go_wp2;go_loopw [23] (fun v wr=>∃ k:Nat,k≤ns∧v = .int .i64 (k:Int)∧Hid (Mid n0 n1 W0 wr)) (fun v _=>ns - (intOf v).toNat)
 case atStart=>exact ⟨0,Nat.zero_le _,rfl,HM⟩
 case round =>
  obtain ⟨k,hk,rfl,hr⟩:=hrel;by_cases hlt:k < ns
  ·have hlt':(k:Int) < (ns:Int):=by omega
   have hk0:(0:Int)≤(k:Int):=by omega
   obtain ⟨g,_,_,rfl,_⟩:=HH.out wr hr.out k hlt;have hm0:=HL.out k hlt;have Hc:=hid (fun X hX=>HH.out X hX k hlt);generalize len k = m at *;have hm1:(m:Int)≤9223372036854775807:=by unfold maxLen at *;omega
   go_wp2;go_loopw [24] (fun v X=>∃ n:Nat,n≤m∧v = .int .i64 (n:Int)∧Hid (Mid n0 n1 W0 X)) (fun v _=>m - (intOf v).toNat)
   case atStart=>exact ⟨0,Nat.zero_le _,rfl,hr⟩
   case round =>
    obtain ⟨n,hn1,rfl,hx⟩:=hrel;obtain ⟨g',ad,c',e,hc,hw⟩:=Hc.out wr hx.out;cases e;by_cases hlt2:n < m
    ·have XO:(n:Int) < (m:Int):=by omega
     obtain ⟨b',off',rfl,hb,⟨z,hz⟩,hf⟩:=hw.at hx.out hlt2;have Hb:=hid hb;clear hb hw;go_wp2;go_roundw
     case rel=>exact ⟨n+1,by omega,by go_num,hid (hx.out.set Hb.out _ _)⟩
     case measure=>simp [intOf];omega
    ·obtain rfl:n = m:=by omega
     clear hw;go_wp2;go_roundw
     case rel=>exact ⟨k+1,by omega,by go_num,hx⟩
     case measure=>simp [intOf];omega
  ·obtain rfl:k = ns:=by omega
   go_wp2;exact HK.out _ _ _ _ _ _ _ _ _ _ _ _ _ _ _ _ _ _ _ _ _ _ _ _ _ _ hr.out
theorem ahd {n0 n1:Nat} {W0 W:World} {aa:Option Addr} {na ca:Nat} {l1 l2:Nat→Nat} {Qf:Exit→Act→World→Prop} (h:∀ X,Mid n0 n1 W0 X→∀ j,j < na→∃ g aL cL aR cR,aa = some ⟨g,0,none⟩∧X.cell? ⟨g,j * 2,none⟩ = some (.slice aL (l1 j) cL)∧X.cell? ⟨g,j * 2+1,none⟩ = some (.slice aR (l2 j) cR)∧Gm n0 n1 W0 aL (l1 j)∧Gm n0 n1 W0 aR (l2 j)) (hn:na≤maxLen) (hl:∀ j,j < na→l1 j≤maxLen∧l2 j≤maxLen) (hM:Mid n0 n1 W0 W) 
 (K:∀ (d27 d28 d29 ZB ZC ZE ZF ZG ZH ZI ZJ ZK ZL ZM ZN ZO ZP ZQ ZR ZT ZU ZV ZW ZX ZY ZZ Z0 Z4 Z5 Z6 Z7 Z8 Z9 aaa aab aac aad aae aaf aag aah aai aaj:Value) (V:World),Mid n0 n1 W0 V→Code.wp Tryz.prog (spine 14 (Tryz.f5.body.getD .skip)) Qf ⟨#[c0,c1,c2,c3,c4,c5,c6,c7,c8,c9,c10,c11,c12,c13,c14,c15,c16,c17,c18,c19,c20,c21,Pt,c23,c24,.slice aa na ca,Pv,d27,d28,d29,MU,c31,c32,MV,c34,MW,MX,c37,MZ,M0,c40,Jl,M5,M7,M8,Nb,c46,Nc,Nf,c49,Ng,c51,Nh,c53,Ni,Nj,Nk,Nl,Nn,c59,Np,Nq,Nr,Ns,c64,Nt,Nu,Nv,Nw,Ny,c70,Nz,c72,NA,NB,c75,c76,NC,ND,NF,c80,NG,NH,NI,NJ,c85,NK,c87,NL,NM,NN,c91,NP,c93,NQ,NR,NS,NT,NU,NV,sS,sU,sV,sW,sZ,c105,tq,c107,tu,c109,tC,tF,tH,tJ,tK,tL,c116,c117,tN,c119,tO,tQ,tT,zL,c124,zM,zN,c127,zO,zQ,c130,c131,zS,zT,zU,zV,zX,zY,c138,c139,zZ,c141,z8,c143,Aa,c145,c146,Ab,c148,Ac,Ad,Ae,c152,Af,c154,Ag,c156,c157,Ah,c159,c160,Ai,c162,Aj,c164,Ak,Al,c167,c168,Am,Ao,c171,Ap,c173,Aq,c175,Ar,Au,Av,Aw,ZB,ZC,ZE,ZF,ZG,ZH,ZI,ZJ,ZK,ZL,ZM,ZN,ZO,ZP,ZQ,ZR,ZT,ZU,ZV,ZW,ZX,ZY,ZZ,Z0,Z4,Z5,Z6,Z7,Z8,Z9,aaa,aab,aac,aad,aae,aaf,aag,aah,aai,aaj,tV,tX,c222,tY,tZ,uf,c226,c227,c228,c229,ug,uh,c232,c233,c234,ui,c236,uj,uk,um,uo,uq,uu,uw,uy,uz,uA,uB,uC,uD,uE,uF,uG,uH,uI,uJ,uK,uM,uN,uO,uP,uQ,uS,uT,uU,uV,uW,uX,uY,uZ,ve,vg,vB,vD,vE,vF,vG,vH,vI,vJ,vK,vM,vO,vQ,vS,vT,vU,vV,vW,vX,vY,vZ,wh,wm,wo,wu,wy,wz,wB,wC,wD,wE,wF,wG,wH,wI,wJ,wK,wM,wN,wO,wQ,wS,wT,wU,wV,wW,wX,wY,wZ,xg,xh,xk,xm,xn,xq,xu,xw,xx,xy,xz,xA,xB,xC,xD,xE,xG,xH,xI,xJ,xK,xM,xN,xO,xQ,xS,xU,xV,xW,xX,xY,xZ,yf,yg,yh,yj,yl,ym,yn,yo,yt,yu,yw,yx],[]⟩ V) :
 Code.wp Tryz.prog (spine 13 (Tryz.f5.body.getD .skip)) Qf ⟨#[c0,c1,c2,c3,c4,c5,c6,c7,c8,c9,c10,c11,c12,c13,c14,c15,c16,c17,c18,c19,c20,c21,Pt,c23,c24,.slice aa na ca,Pv,Pw,c28,Px,MU,c31,c32,MV,c34,MW,MX,c37,MZ,M0,c40,Jl,M5,M7,M8,Nb,c46,Nc,Nf,c49,Ng,c51,Nh,c53,Ni,Nj,Nk,Nl,Nn,c59,Np,Nq,Nr,Ns,c64,Nt,Nu,Nv,Nw,Ny,c70,Nz,c72,NA,NB,c75,c76,NC,ND,NF,c80,NG,NH,NI,NJ,c85,NK,c87,NL,NM,NN,c91,NP,c93,NQ,NR,NS,NT,NU,NV,sS,sU,sV,sW,sZ,c105,tq,c107,tu,c109,tC,tF,tH,tJ,tK,tL,c116,c117,tN,c119,tO,tQ,tT,zL,c124,zM,zN,c127,zO,zQ,c130,c131,zS,zT,zU,zV,zX,zY,c138,c139,zZ,c141,z8,c143,Aa,c145,c146,Ab,c148,Ac,Ad,Ae,c152,Af,c154,Ag,c156,c157,Ah,c159,c160,Ai,c162,Aj,c164,Ak,Al,c167,c168,Am,Ao,c171,Ap,c173,Aq,c175,Ar,Au,Av,Aw,Ay,Az,c182,c183,AA,AB,AJ,AL,AO,AP,AQ,AR,AU,c193,c194,AV,c196,AZ,c198,A7,A8,c201,A9,c203,Bb,Bc,c206,Be,c208,Bg,c210,Bh,c212,c213,Bi,Bj,Bl,Bn,c218,Bo,tV,tX,c222,tY,tZ,uf,c226,c227,c228,c229,ug,uh,c232,c233,c234,ui,c236,uj,uk,um,uo,uq,uu,uw,uy,uz,uA,uB,uC,uD,uE,uF,uG,uH,uI,uJ,uK,uM,uN,uO,uP,uQ,uS,uT,uU,uV,uW,uX,uY,uZ,ve,vg,vB,vD,vE,vF,vG,vH,vI,vJ,vK,vM,vO,vQ,vS,vT,vU,vV,vW,vX,vY,vZ,wh,wm,wo,wu,wy,wz,wB,wC,wD,wE,wF,wG,wH,wI,wJ,wK,wM,wN,wO,wQ,wS,wT,wU,wV,wW,wX,wY,wZ,xg,xh,xk,xm,xn,xq,xu,xw,xx,xy,xz,xA,xB,xC,xD,xE,xG,xH,xI,xJ,xK,xM,xN,xO,xQ,xS,xU,xV,xW,xX,xY,xZ,yf,yg,yh,yj,yl,ym,yn,yo,yt,yu,yw,yx],[]⟩ W:=by
 have HM:=hid hM;have HH:=hid h;conv=>arg 2;whnf
 apply wp_seq_k;intro Kn hKn;have HK:=hid (fun d27 d28 d29 ZB ZC ZE ZF ZG ZH ZI ZJ ZK ZL ZM ZN ZO ZP ZQ ZR ZT ZU ZV ZW ZX ZY ZZ Z0 Z4 Z5 Z6 Z7 Z8 Z9 aaa aab aac aad aae aaf aag aah aai aaj V hV=>hKn _ _ (K d27 d28 d29 ZB ZC ZE ZF ZG ZH ZI ZJ ZK ZL ZM ZN ZO ZP ZQ ZR ZT ZU ZV ZW ZX ZY ZZ Z0 Z4 Z5 Z6 Z7 Z8 Z9 aaa aab aac aad aae aaf aag aah aai aaj V hV));clear K hM hKn h;have HL:=hid hl;clear hl;have hn':(na:Int)≤9223372036854775807:=by unfold maxLen at *;omega
 go_wp2;go_loopw [27] (fun v wr=>∃ k:Nat,k≤na∧v = .int .i64 (k:Int)∧Hid (Mid n0 n1 W0 wr)) (fun v _=>na - (intOf v).toNat)
 case atStart=>exact ⟨0,Nat.zero_le _,rfl,HM⟩
 case round =>
  obtain ⟨k,hk,rfl,hr⟩:=hrel;by_cases hlt:k < na
  ·have hlt':(k:Int) < (na:Int):=by omega
   have hk0:(0:Int)≤(k:Int):=by omega
   obtain ⟨g,_,_,_,_,rfl,_⟩:=HH.out wr hr.out k hlt;obtain ⟨hm1,hm2⟩:=HL.out k hlt;have Hc:=hid (fun X hX=>HH.out X hX k hlt);generalize l1 k = m1 at *;generalize l2 k = m2 at *;have amF:(m1:Int)≤9223372036854775807:=by unfold maxLen at *;omega
   have abq:(m2:Int)≤9223372036854775807:=by unfold maxLen at *;omega
   go_wp2;go_loopw [28] (fun v X=>∃ n:Nat,n≤m1∧v = .int .i64 (n:Int)∧Hid (Mid n0 n1 W0 X)) (fun v _=>m1 - (intOf v).toNat)
   case atStart=>exact ⟨0,Nat.zero_le _,rfl,hr⟩
   case round =>
    obtain ⟨n,hn1,rfl,hx⟩:=hrel;obtain ⟨g',aL,cL,aR,cR,e,hcL,hcR,hwL,hwR⟩:=Hc.out wr hx.out;cases e;by_cases hlt2:n < m1
    ·have XO:(n:Int) < (m1:Int):=by omega
     obtain ⟨b',off',rfl,hb,⟨z,hz⟩,hf⟩:=hwL.at hx.out hlt2;have Hb:=hid hb;clear hb hwL hwR;go_wp2;go_roundw
     case rel=>exact ⟨n+1,by omega,by go_num,hid (hx.out.set Hb.out _ _)⟩
     case measure=>simp [intOf];omega
    ·obtain rfl:n = m1:=by omega
     clear hwL hwR;go_wp2;go_loopw [29] (fun v X=>∃ n:Nat,n≤m2∧v = .int .i64 (n:Int)∧Hid (Mid n0 n1 W0 X)) (fun v _=>m2 - (intOf v).toNat)
     case atStart=>exact ⟨0,Nat.zero_le _,rfl,hx⟩
     case round =>
      obtain ⟨n,hn1,rfl,hx⟩:=hrel;obtain ⟨g',aL,cL,aR,cR,e,hcL,hcR,hwL,hwR⟩:=Hc.out wr hx.out;cases e;by_cases hlt2:n < m2
      ·have XO:(n:Int) < (m2:Int):=by omega
       obtain ⟨b',off',rfl,hb,⟨z,hz⟩,hf⟩:=hwR.at hx.out hlt2;have Hb:=hid hb;clear hb hwL hwR;go_wp2;go_roundw
       case rel=>exact ⟨n+1,by omega,by go_num,hid (hx.out.set Hb.out _ _)⟩
       case measure=>simp [intOf];omega
      ·obtain rfl:n = m2:=by omega
       clear hwL hwR;go_wp2;go_roundw
       case rel=>exact ⟨k+1,by omega,by go_num,hx⟩
       case measure=>simp [intOf];omega
  ·obtain rfl:k = na:=by omega
   go_wp2;exact HK.out _ _ _ _ _ _ _ _ _ _ _ _ _ _ _ _ _ _ _ _ _ _ _ _ _ _ _ _ _ _ _ _ _ _ _ _ _ _ _ _ _ _ _ _ hr.out
end
end Go.Proofs.YtglohanbpjaieaaGreat
namespace Go.Proofs.YtglohanbpjaieaaGreat
open Go.Proofs Go.RowKit Go.Shelf Go.Maps
def Py (n0 n1:Nat) (w:World) (u:Value):Prop:=∃ a n c,u = .slice a n c∧Gm n0 n1 w a n∧n≤maxLen
theorem Py.one {n0 n1:Nat} {w:World} {u:Value} (h:Py n0 n1 w u):u.oneCell' = true:=by
 obtain ⟨_,_,_,rfl,_⟩:=h;rfl
def jI (E:Value→Prop) (e:TypeId) (sb:Nat) (W:World) (v:Value) (n:Nat):Prop:=∃ us:List Value,W.ownsRow sb e 2 v n us∧∀ u∈us,E u
theorem jI.ahe (E:Value→Prop) (e:TypeId) (sb:Nat) (W:World) (h:sb≤W.heap.size):jI E e sb (W.alloc (.cells #[] e)) (.slice (some ⟨W.heap.size,0,none⟩) 0 0) 0 :=
 ⟨[],⟨rfl,.inr ⟨W.heap.size,0,#[],rfl,h,World.alloc_heap_new W _,Nat.le_refl _,by unfold maxLen;omega,rfl,rfl⟩⟩,fun u hu=>by simp at hu⟩
theorem jI.keep {E:Value→Prop} {e:TypeId} {sb:Nat} {W W':World} {v:Value} {n:Nat} (h:jI E e sb W v n) (hk:∀ b,b < W.heap.size→W'.heap[b]? = W.heap[b]?):jI E e sb W' v n:=by
 obtain ⟨us,h1,h2⟩:=h;exact ⟨us,og h1 fun q hq=>hk q (World.ownsRow.lt h1 q hq).2,h2⟩
theorem jI.below {E:Value→Prop} {e:TypeId} {sb:Nat} {W W':World} {v:Value} {n:Nat} (h:jI E e sb W v n) (hB:Below W.heap.size W W'):jI E e sb W' v n:=h.keep hB.block
theorem jI.slice {E:Value→Prop} {e:TypeId} {sb:Nat} {W:World} {v:Value} {n:Nat} (h:jI E e sb W v n):∃ a c,v = .slice a n c∧n≤maxLen:=by
 obtain ⟨us,h1,_⟩:=h;rcases h1.2 with ⟨rfl,h0⟩ | ⟨g,cap,cur,rfl,_,_,h3,h4,_⟩
 ·exact ⟨none,0,by rw [h0],by omega⟩
 ·exact ⟨_,cap,rfl,by omega⟩
theorem jI.elem {n0 n1:Nat} {w:World} {e:TypeId} {sb:Nat} {W:World} {v:Value} {n:Nat} (h:jI (Py n0 n1 w) e sb W v n) {k:Nat} (hk:k < n) :
 ∃ g cap aL nL cL aR nR cR,v = .slice (some ⟨g,0,none⟩) n cap∧g < W.heap.size∧W.cell? ⟨g,k * 2,none⟩ = some (.slice aL nL cL)∧W.cell? ⟨g,k * 2+1,none⟩ = some (.slice aR nR cR)∧Py n0 n1 w (.slice aL nL cL)∧Py n0 n1 w (.slice aR nR cR):=by
 obtain ⟨us,h1,h2⟩:=h;have hl:us.length = n * 2:=h1.1;rcases h1.2 with ⟨rfl,h0⟩ | ⟨g,cap,cur,rfl,hb,hgb,_⟩
 ·omega
 ·have c1:=World.ownsRow.cellAt h1 (k * 2) (by omega)
  have c2:=World.ownsRow.cellAt h1 (k * 2+1) (by omega);rw [List.getElem?_eq_getElem (show k * 2 < us.length by omega)] at c1;rw [List.getElem?_eq_getElem (show k * 2+1 < us.length by omega)] at c2;have e1:=h2 _ (List.getElem_mem (show k * 2 < us.length by omega));have e2:=h2 _ (List.getElem_mem (show k * 2+1 < us.length by omega));obtain ⟨aL,nL,cL,q1,_⟩:=id e1;obtain ⟨aR,nR,cR,q2,_⟩:=id e2;rw [q1] at c1 e1;rw [q2] at c2 e2;exact ⟨g,cap,aL,nL,cL,aR,nR,cR,rfl,(Array.getElem?_eq_some_iff.1 hgb).1,c1,c2,e1,e2⟩
theorem aU.rowE {n0 n1 sb:Nat} {e:TypeId} (he:e≠3) {w w' W:World} {v:Value} {ps:ah} (h:aU false e sb n0 w v ps) (hn:w.heap.size≤n1) (hB:Below w.heap.size w w') (hM:Mid n0 n1 w' W):jI (Py n0 n1 w') e sb W v ps.length:=by
 obtain ⟨us,h1,h2⟩:=h;have hl:us.length = ps.length * 2:=h1.1;refine ⟨us,og h1 fun q hq=>?_,fun u hu=>?_⟩
 ·obtain ⟨cs,hc⟩:=ji h1 hq
  have hlt:q < w.heap.size:=(Array.getElem?_eq_some_iff.1 hc).1;have hs:=hB.size;refine (hM.out q (by omega) ?_).trans (hB.block q hlt);rintro ⟨_,_,cs',h3⟩;rw [hB.block q hlt,hc] at h3;simp only [Option.some.injEq,Obj.cells.injEq] at h3;exact he h3.2.1
 ·obtain ⟨k,hk,e⟩:=List.getElem_of_mem hu
  obtain ⟨aL,cL,aR,cR,p1,p2,i1,i2,r1,r2,r3,r4⟩:=h2 (k / 2) (by omega);rcases Nat.mod_two_eq_zero_or_one k with h0 | h0
  ·rw [show k / 2 * 2 = k by omega,List.getElem?_eq_getElem hk,e] at p1
   cases p1;exact ⟨_,_,_,rfl,(i1.wr hn).below hB,by omega⟩
  ·rw [show k / 2 * 2+1 = k by omega,List.getElem?_eq_getElem hk,e] at p2
   cases p2;exact ⟨_,_,_,rfl,(i2.wr hn).below hB,by omega⟩
theorem Gm.mid {n0 n1:Nat} {w W:World} {a:Option Addr} {n:Nat} (h:Gm n0 n1 w a n) (hM:Mid n0 n1 w W):Gm n0 n1 W a n:=fun j hj=>by
 obtain ⟨b,off,e,hb,z,_⟩:=h.at hM hj;exact ⟨b,off,e,⟨hb.1,hb.2.1,hM.typ b hb⟩,z⟩
theorem jI.mid {n0 n1:Nat} {w:World} {e:TypeId} (he:e≠3) {sb:Nat} {W:World} {v:Value} {n:Nat} (h:jI (Py n0 n1 w) e sb W v n) (hM:Mid n0 n1 w W):∃ l1 l2:Nat→Nat,(∀ j,j < n→l1 j≤maxLen∧l2 j≤maxLen)∧∃ a c,v = .slice a n c∧n≤maxLen ∧
 ∀ X,Mid n0 n1 W X→∀ j,j < n→∃ g aL cL aR cR,a = some ⟨g,0,none⟩∧X.cell? ⟨g,j * 2,none⟩ = some (.slice aL (l1 j) cL)∧X.cell? ⟨g,j * 2+1,none⟩ = some (.slice aR (l2 j) cR)∧Gm n0 n1 W aL (l1 j)∧Gm n0 n1 W aR (l2 j):=by
 obtain ⟨a,c,rfl,hm⟩:=h.slice;have ht:∀ g,(Value.slice a n c).ownBlock = some g→∃ cs,W.heap[g]? = some (.cells cs e (0,0)):=fun g hg=>by
  obtain ⟨us,h1,_⟩:=id h;exact ji h1 hg
 have key:∀ j:Nat,∃ x:Nat × Nat,j < n→(x.1≤maxLen∧x.2≤maxLen)∧∀ X,Mid n0 n1 W X→∃ g aL cL aR cR,a = some ⟨g,0,none⟩∧X.cell? ⟨g,j * 2,none⟩ = some (.slice aL x.1 cL)∧X.cell? ⟨g,j * 2+1,none⟩ = some (.slice aR x.2 cR)∧Gm n0 n1 W aL x.1∧Gm n0 n1 W aR x.2:=fun j=>by
  by_cases hj:j < n
  ·obtain ⟨g,cap,aL,nL,cL,aR,nR,cR,e1,hg,c1,c2,w1,w2⟩:=h.elem hj
   obtain ⟨_,_,_,q1,t1,m1⟩:=w1;obtain ⟨_,_,_,q2,t2,m2⟩:=w2;cases q1;cases q2;cases e1;obtain ⟨cs,hcs⟩:=ht g rfl;exact ⟨(nL,nR),fun _=>⟨⟨m1,m2⟩,fun X hX=>⟨g,aL,cL,aR,cR,rfl,(hX.cell hcs he).trans c1,(hX.cell hcs he).trans c2,t1.mid hM,t2.mid hM⟩⟩⟩
  ·exact ⟨(0,0),fun h=>absurd h hj⟩
 obtain ⟨f,hf⟩:=Classical.axiomOfChoice key;exact ⟨fun j=>(f j).1,fun j=>(f j).2,fun j hj=>(hf j hj).1,a,c,rfl,hm,fun X hX j hj=>(hf j hj).2 X hX⟩
theorem GG {E:Value→Prop} (hE:∀ u,E u→u.oneCell' = true) {ops:Array Oper} {rest:List Oper} {o:Oper} {a:Act} {Q:Exit→Act→World→Prop} (w:World) (hgd:o.guard = none) (s x:Operand)
 (ho:o.op = .call { callee:=.builtin .append,args:=#[s,x],argTypes:=#[24,24] }) (sb:Nat) (v:Value) (n:Nat) (hs:a.eval s = v) (hN:jI E 40 sb w v n)
 (v2:Value) (m:Nat) (hx:a.eval x = v2) (sb2:Nat) (hM:jI E 40 sb2 w v2 m) (hlen:n+m≤100000) (hbase:sb≤w.heap.size)
 (h:∀ v' w',jI E 40 sb w' v' (n+m)→Below sb w w'→wpList Tryz.prog ops Q rest (a.put o.dst v') w'):wpList Tryz.prog ops Q (o :: rest) a w:=by
 obtain ⟨i0,hi,hz0,hz1,hz2⟩:=info_parts Tryz.mH;obtain ⟨us,h1,h2⟩:=hN;obtain ⟨qI,m1,m2⟩:=hM;have VD:qI.length = m * 2:=m1.1;rcases m1.2 with ⟨rfl,hn⟩ | ⟨g,cap,cur,rfl,hb,hgb,r1,r2,r3⟩
 ·subst hn
  refine wpList_append_own_none hgd s x 24 ho sb 40 i0 2 Tryz.underlying24 hi v n us hs h1 hx (h v w ⟨us,h1,h2⟩ (Below.refl _ _))
 ·refine wpList_append_own w hgd s x 24 ho sb 40 i0 (.agg #[.slice none 0 0,.slice none 0 0]) 2 48 Tryz.underlying24 hi hz0 hz1 hz2 rfl (by decide) v n us hs h1 ⟨g,0,none⟩ m cap qI hx (by omega)
   (by intro j z hj
       have hjl:j < m * 2:=by
        have:=(List.getElem?_eq_some_iff.1 hj).1
        omega
       rw [Go.WideShapes.add_plain];have:=World.ownsRow.cellAt m1 j hjl
       rw [hj] at this;simpa using this)
   (fun u hu=>hE u (m2 u hu)) (by unfold maxLen;omega) (by omega) hbase ?_
  intro v' w' hown hg _;exact h v' w' ⟨us++qI,hown,fun u hu=>(List.mem_append.1 hu).elim (h2 u) (m2 u)⟩ ((Below.refl sb w).grown hg hbase (fun k e=>(World.ownsRow.lt h1 k e).1))
theorem NW {E:Value→Prop} (hE:∀ u,E u→u.oneCell' = true) {ops:Array Oper} {o:Oper} {a:Act} {K:Act→World→Prop} {Q:Exit→Act→World→Prop} {E':Prop} (w:World) (hgd:o.guard = none) (s x:Operand)
 (ho:o.op = .call { callee:=.builtin .append,args:=#[s,x],argTypes:=#[24,24] }) (sb:Nat) (v:Value) (n:Nat) (hs:a.eval s = v) (hN:jI E 40 sb w v n)
 (B:Nat) (uL uR:Value) (hx:a.eval x = .slice (some ⟨B,0,none⟩) 1 1) (hB0:w.cell? ⟨B,0,none⟩ = some uL) (hB1:w.cell? ⟨B,1,none⟩ = some uR) (h1:E uL) (h2:E uR) (hlen:n≤1000000) (hbase:sb≤w.heap.size)
 (h:∀ g c' w',jI E 40 sb w' (.slice (some ⟨g,0,none⟩) (n+1) c') (n+1)→Below sb w w'→K (a.put o.dst (.slice (some ⟨g,0,none⟩) (n+1) c')) w') :
 if Region.wanted o (yielded ops a.tmps) = true then Oper.wp Tryz.prog o a w K Q else E':=by
 obtain ⟨i0,hi,hz0,hz1,hz2⟩:=info_parts Tryz.mH;obtain ⟨us,qh,hcl⟩:=hN;refine step_append_lies w hgd s x 24 ho sb 40 i0 (.agg #[.slice none 0 0,.slice none 0 0]) 2 48 Tryz.underlying24 hi hz0 hz1 hz2 rfl (by decide) v n us hs qh ⟨B,0,none⟩ 1 1 [uL,uR] hx (by simp)
  (by intro j z hj
      match j,hj with
      | 0,hj=>simp at hj;subst hj;rw [Go.WideShapes.add_plain];simpa using hB0
      | 1,hj=>simp at hj;subst hj;rw [Go.WideShapes.add_plain];simpa using hB1)
  (by intro u hu;simp at hu;rcases hu with rfl | rfl;exact hE _ h1;exact hE _ h2) (by decide) (by unfold maxLen;omega) (by omega) hbase w.heap.size rfl ?_
 intro g c' w' hown hg _ _;refine h g c' w' ⟨us++[uL,uR],hown,fun u hu=>?_⟩ ((Below.refl sb w).grown hg hbase fun k e=>(World.ownsRow.lt qh k e).1);simp only [List.mem_append,List.mem_cons,List.not_mem_nil,or_false] at hu;rcases hu with hu | rfl | rfl
 ·exact hcl u hu
 ·exact h1
 ·exact h2
end Go.Proofs.YtglohanbpjaieaaGreat
namespace Go.Proofs.YtglohanbpjaieaaGreat
open Go.Proofs Go.RowKit Go.Shelf Go.Maps Go.Deep
section
variable {c0 c1 c2 c3 c4 c5 c6 c7 c8 c9 c10 c11 c12 c13 c14 c15 c16 c17 c18 c19 c20 c21 Pt c23 c24 Vj Pv Pw c28 Px MU c31 c32 MV c34 MW MX c37 MZ M0 c40 Jl M5 M7 M8 Nb c46 Nc Nf c49 Ng c51 Nh c53 Ni Nj Nk Nl Nn c59 Np Nq Nr Ns c64 Nt Nu Nv Nw Ny c70 Nz c72 NA NB c75 c76 NC ND NF c80 NG NH NI NJ c85 NK c87 NL NM NN c91 NP c93 NQ NR NS NT NU NV sS sU sV sW sZ c105 tq c107 tu c109 tC tF tH tJ tK tL c116 c117 tN c119 tO tQ tT zL c124 zM zN c127 zO zQ c130 c131 zS zT zU zV zX zY c138 c139 zZ c141 z8 c143 Aa c145 c146 Ab c148 Ac Ad Ae c152 Af c154 Ag c156 c157 Ah c159 c160 Ai c162 Aj c164 Ak Al c167 c168 Am Ao c171 Ap c173 Aq c175 Ar Au Av Aw Ay Az c182 c183 AA AB AJ AL AO AP AQ AR AU c193 c194 AV c196 AZ c198 A7 A8 c201 A9 c203 Bb Bc c206 Be c208 Bg c210 Bh c212 c213 Bi Bj Bl Bn c218 Bo tV tX c222 tY tZ uf c226 c227 c228 c229 ug uh c232 c233 c234 ui c236 uj uk um uo uq uu uw uy uz uA uB uC uD uE uF uG uH uI uJ uK uM uN uO uP uQ uS uT uU uV uW uX uY uZ ve vg vB vD vE vF vG vH vI vJ vK vM vO vQ vS vT vU vV vW vX vY vZ wh wm wo wu wy wz wB wC wD wE wF wG wH wI wJ wK wM wN wO wQ wS wT wU wV wW wX wY wZ xg xh xk xm xn xq xu xw xx xy xz xA xB xC xD xE xG xH xI xJ xK xM xN xO xQ xS xU xV xW xX xY xZ yf yg yh yj yl ym yn yo yt yu yw yx:Value}
theorem ahf {E:Value→Prop} (hE:∀ u,E u→u.oneCell' = true) {sp sq:Nat} {W:World} {vp vq:Value} {np nq:Nat} {Qf:Exit→Act→World→Prop} (h:jI E 40 sp W vp np) (hM:jI E 40 sq W vq nq) (hl:np+nq≤50000) 
 (K:∀ (d25 d155 d156 d157 aak aal:Value) (V:World),jI E 40 W.heap.size V d25 (np+nq)∧Below W.heap.size W V→Code.wp Tryz.prog (spine 12 (Tryz.f5.body.getD .skip)) Qf ⟨#[c0,c1,c2,c3,c4,c5,c6,c7,c8,c9,c10,c11,c12,c13,vp,c15,c16,vq,c18,c19,c20,c21,Pt,c23,c24,d25,Pv,Pw,c28,Px,MU,c31,c32,MV,c34,MW,MX,c37,MZ,M0,c40,Jl,M5,M7,M8,Nb,c46,Nc,Nf,c49,Ng,c51,Nh,c53,Ni,Nj,Nk,Nl,Nn,c59,Np,Nq,Nr,Ns,c64,Nt,Nu,Nv,Nw,Ny,c70,Nz,c72,NA,NB,c75,c76,NC,ND,NF,c80,NG,NH,NI,NJ,c85,NK,c87,NL,NM,NN,c91,NP,c93,NQ,NR,NS,NT,NU,NV,sS,sU,sV,sW,sZ,c105,tq,c107,tu,c109,tC,tF,tH,tJ,tK,tL,c116,c117,tN,c119,tO,tQ,tT,zL,c124,zM,zN,c127,zO,zQ,c130,c131,zS,zT,zU,zV,zX,zY,c138,c139,zZ,c141,z8,c143,Aa,c145,c146,Ab,c148,Ac,Ad,Ae,c152,Af,c154,d155,d156,d157,aak,aal,c160,Ai,c162,Aj,c164,Ak,Al,c167,c168,Am,Ao,c171,Ap,c173,Aq,c175,Ar,Au,Av,Aw,Ay,Az,c182,c183,AA,AB,AJ,AL,AO,AP,AQ,AR,AU,c193,c194,AV,c196,AZ,c198,A7,A8,c201,A9,c203,Bb,Bc,c206,Be,c208,Bg,c210,Bh,c212,c213,Bi,Bj,Bl,Bn,c218,Bo,tV,tX,c222,tY,tZ,uf,c226,c227,c228,c229,ug,uh,c232,c233,c234,ui,c236,uj,uk,um,uo,uq,uu,uw,uy,uz,uA,uB,uC,uD,uE,uF,uG,uH,uI,uJ,uK,uM,uN,uO,uP,uQ,uS,uT,uU,uV,uW,uX,uY,uZ,ve,vg,vB,vD,vE,vF,vG,vH,vI,vJ,vK,vM,vO,vQ,vS,vT,vU,vV,vW,vX,vY,vZ,wh,wm,wo,wu,wy,wz,wB,wC,wD,wE,wF,wG,wH,wI,wJ,wK,wM,wN,wO,wQ,wS,wT,wU,wV,wW,wX,wY,wZ,xg,xh,xk,xm,xn,xq,xu,xw,xx,xy,xz,xA,xB,xC,xD,xE,xG,xH,xI,xJ,xK,xM,xN,xO,xQ,xS,xU,xV,xW,xX,xY,xZ,yf,yg,yh,yj,yl,ym,yn,yo,yt,yu,yw,yx],[]⟩ V) :
 Code.wp Tryz.prog (spine 11 (Tryz.f5.body.getD .skip)) Qf ⟨#[c0,c1,c2,c3,c4,c5,c6,c7,c8,c9,c10,c11,c12,c13,vp,c15,c16,vq,c18,c19,c20,c21,Pt,c23,c24,Vj,Pv,Pw,c28,Px,MU,c31,c32,MV,c34,MW,MX,c37,MZ,M0,c40,Jl,M5,M7,M8,Nb,c46,Nc,Nf,c49,Ng,c51,Nh,c53,Ni,Nj,Nk,Nl,Nn,c59,Np,Nq,Nr,Ns,c64,Nt,Nu,Nv,Nw,Ny,c70,Nz,c72,NA,NB,c75,c76,NC,ND,NF,c80,NG,NH,NI,NJ,c85,NK,c87,NL,NM,NN,c91,NP,c93,NQ,NR,NS,NT,NU,NV,sS,sU,sV,sW,sZ,c105,tq,c107,tu,c109,tC,tF,tH,tJ,tK,tL,c116,c117,tN,c119,tO,tQ,tT,zL,c124,zM,zN,c127,zO,zQ,c130,c131,zS,zT,zU,zV,zX,zY,c138,c139,zZ,c141,z8,c143,Aa,c145,c146,Ab,c148,Ac,Ad,Ae,c152,Af,c154,Ag,c156,c157,Ah,c159,c160,Ai,c162,Aj,c164,Ak,Al,c167,c168,Am,Ao,c171,Ap,c173,Aq,c175,Ar,Au,Av,Aw,Ay,Az,c182,c183,AA,AB,AJ,AL,AO,AP,AQ,AR,AU,c193,c194,AV,c196,AZ,c198,A7,A8,c201,A9,c203,Bb,Bc,c206,Be,c208,Bg,c210,Bh,c212,c213,Bi,Bj,Bl,Bn,c218,Bo,tV,tX,c222,tY,tZ,uf,c226,c227,c228,c229,ug,uh,c232,c233,c234,ui,c236,uj,uk,um,uo,uq,uu,uw,uy,uz,uA,uB,uC,uD,uE,uF,uG,uH,uI,uJ,uK,uM,uN,uO,uP,uQ,uS,uT,uU,uV,uW,uX,uY,uZ,ve,vg,vB,vD,vE,vF,vG,vH,vI,vJ,vK,vM,vO,vQ,vS,vT,vU,vV,vW,vX,vY,vZ,wh,wm,wo,wu,wy,wz,wB,wC,wD,wE,wF,wG,wH,wI,wJ,wK,wM,wN,wO,wQ,wS,wT,wU,wV,wW,wX,wY,wZ,xg,xh,xk,xm,xn,xq,xu,xw,xx,xy,xz,xA,xB,xC,xD,xE,xG,xH,xI,xJ,xK,xM,xN,xO,xQ,xS,xU,xV,xW,xX,xY,xZ,yf,yg,yh,yj,yl,ym,yn,yo,yt,yu,yw,yx],[]⟩ W:=by
 have hA:Hid (Below W.heap.size W (W.alloc (.cells #[] 40))):=(Below.refl _ _).alloc (Nat.le_refl _) _;have hl0:Hid (jI E 40 W.heap.size (W.alloc (.cells #[] 40)) (.slice (some ⟨W.heap.size,0,none⟩) 0 0) 0):=jI.ahe _ _ _ _ (Nat.le_refl _);have hp:=hid (h.below hA.out);have hq:=hid hM;conv=>arg 2;whnf
 apply wp_seq_k;intro Kn hKn;have HK:=hid (fun d25 d155 d156 d157 aak aal V hV=>hKn _ _ (K d25 d155 d156 d157 aak aal V hV));clear K hM hKn h;go_wp2_with (first
  | (at_builtin;go_loud (refine GG hE _ rfl _ _ rfl W.heap.size (.slice (some ⟨W.heap.size,0,none⟩) 0 0) 0 rfl hl0.out vp np rfl sp hp.out (by omega) hA.out.size ?_);intro v1 w1 N1 b1;rw [Nat.zero_add] at N1;have B1:=hA.out.trans b1;have hq1:=hid (hq.out.below B1))
  | (at_builtin;refine GG hE _ rfl _ _ rfl W.heap.size v1 np rfl N1 vq nq rfl sq hq1.out (by omega) B1.size ?_;intro v2 w2 N2 b2))
 exact HK.out _ _ _ _ _ _ _ ⟨N2,B1.trans b2⟩
theorem ahg {n0 n1 sm:Nat} {w0 Wb W:World} {va:Value} {am:Option Addr} {nm cm na:Nat} {Qf:Exit→Act→World→Prop} (h:jI (Py n0 n1 w0) 54 sm Wb (.slice am nm cm) nm) (hM:jI (Py n0 n1 w0) 40 Wb.heap.size W va na) (hB:Below Wb.heap.size Wb W) (hl:na+nm≤100000) 
 (K:∀ (d25 d26 aam aan aao aap aaq aar aas aat aau aav aaw aax aay aaz aaA aaB aaC aaD aaE aaF:Value) (V:World),jI (Py n0 n1 w0) 40 Wb.heap.size V d25 (na+nm)∧Below Wb.heap.size Wb V→Code.wp Tryz.prog (spine 13 (Tryz.f5.body.getD .skip)) Qf ⟨#[c0,c1,c2,c3,c4,c5,c6,c7,c8,c9,c10,c11,c12,c13,c14,c15,.slice am nm cm,c17,c18,c19,c20,c21,Pt,c23,c24,d25,d26,Pw,c28,Px,MU,c31,c32,MV,c34,MW,MX,c37,MZ,M0,c40,Jl,M5,M7,M8,Nb,c46,Nc,Nf,c49,Ng,c51,Nh,c53,Ni,Nj,Nk,Nl,Nn,c59,Np,Nq,Nr,Ns,c64,Nt,Nu,Nv,Nw,Ny,c70,Nz,c72,NA,NB,c75,c76,NC,ND,NF,c80,NG,NH,NI,NJ,c85,NK,c87,NL,NM,NN,c91,NP,c93,NQ,NR,NS,NT,NU,NV,sS,sU,sV,sW,sZ,c105,tq,c107,tu,c109,tC,tF,tH,tJ,tK,tL,c116,c117,tN,c119,tO,tQ,tT,zL,c124,zM,zN,c127,zO,zQ,c130,c131,zS,zT,zU,zV,zX,zY,c138,c139,zZ,c141,z8,c143,Aa,c145,c146,Ab,c148,Ac,Ad,Ae,c152,Af,c154,Ag,c156,c157,Ah,c159,aam,aan,aao,aap,aaq,aar,aas,aat,aau,aav,aaw,aax,aay,aaz,aaA,aaB,aaC,aaD,aaE,aaF,Ay,Az,c182,c183,AA,AB,AJ,AL,AO,AP,AQ,AR,AU,c193,c194,AV,c196,AZ,c198,A7,A8,c201,A9,c203,Bb,Bc,c206,Be,c208,Bg,c210,Bh,c212,c213,Bi,Bj,Bl,Bn,c218,Bo,tV,tX,c222,tY,tZ,uf,c226,c227,c228,c229,ug,uh,c232,c233,c234,ui,c236,uj,uk,um,uo,uq,uu,uw,uy,uz,uA,uB,uC,uD,uE,uF,uG,uH,uI,uJ,uK,uM,uN,uO,uP,uQ,uS,uT,uU,uV,uW,uX,uY,uZ,ve,vg,vB,vD,vE,vF,vG,vH,vI,vJ,vK,vM,vO,vQ,vS,vT,vU,vV,vW,vX,vY,vZ,wh,wm,wo,wu,wy,wz,wB,wC,wD,wE,wF,wG,wH,wI,wJ,wK,wM,wN,wO,wQ,wS,wT,wU,wV,wW,wX,wY,wZ,xg,xh,xk,xm,xn,xq,xu,xw,xx,xy,xz,xA,xB,xC,xD,xE,xG,xH,xI,xJ,xK,xM,xN,xO,xQ,xS,xU,xV,xW,xX,xY,xZ,yf,yg,yh,yj,yl,ym,yn,yo,yt,yu,yw,yx],[]⟩ V) :
 Code.wp Tryz.prog (spine 12 (Tryz.f5.body.getD .skip)) Qf ⟨#[c0,c1,c2,c3,c4,c5,c6,c7,c8,c9,c10,c11,c12,c13,c14,c15,.slice am nm cm,c17,c18,c19,c20,c21,Pt,c23,c24,va,Pv,Pw,c28,Px,MU,c31,c32,MV,c34,MW,MX,c37,MZ,M0,c40,Jl,M5,M7,M8,Nb,c46,Nc,Nf,c49,Ng,c51,Nh,c53,Ni,Nj,Nk,Nl,Nn,c59,Np,Nq,Nr,Ns,c64,Nt,Nu,Nv,Nw,Ny,c70,Nz,c72,NA,NB,c75,c76,NC,ND,NF,c80,NG,NH,NI,NJ,c85,NK,c87,NL,NM,NN,c91,NP,c93,NQ,NR,NS,NT,NU,NV,sS,sU,sV,sW,sZ,c105,tq,c107,tu,c109,tC,tF,tH,tJ,tK,tL,c116,c117,tN,c119,tO,tQ,tT,zL,c124,zM,zN,c127,zO,zQ,c130,c131,zS,zT,zU,zV,zX,zY,c138,c139,zZ,c141,z8,c143,Aa,c145,c146,Ab,c148,Ac,Ad,Ae,c152,Af,c154,Ag,c156,c157,Ah,c159,c160,Ai,c162,Aj,c164,Ak,Al,c167,c168,Am,Ao,c171,Ap,c173,Aq,c175,Ar,Au,Av,Aw,Ay,Az,c182,c183,AA,AB,AJ,AL,AO,AP,AQ,AR,AU,c193,c194,AV,c196,AZ,c198,A7,A8,c201,A9,c203,Bb,Bc,c206,Be,c208,Bg,c210,Bh,c212,c213,Bi,Bj,Bl,Bn,c218,Bo,tV,tX,c222,tY,tZ,uf,c226,c227,c228,c229,ug,uh,c232,c233,c234,ui,c236,uj,uk,um,uo,uq,uu,uw,uy,uz,uA,uB,uC,uD,uE,uF,uG,uH,uI,uJ,uK,uM,uN,uO,uP,uQ,uS,uT,uU,uV,uW,uX,uY,uZ,ve,vg,vB,vD,vE,vF,vG,vH,vI,vJ,vK,vM,vO,vQ,vS,vT,vU,vV,vW,vX,vY,vZ,wh,wm,wo,wu,wy,wz,wB,wC,wD,wE,wF,wG,wH,wI,wJ,wK,wM,wN,wO,wQ,wS,wT,wU,wV,wW,wX,wY,wZ,xg,xh,xk,xm,xn,xq,xu,xw,xx,xy,xz,xA,xB,xC,xD,xE,xG,xH,xI,xJ,xK,xM,xN,xO,xQ,xS,xU,xV,xW,xX,xY,xZ,yf,yg,yh,yj,yl,ym,yn,yo,yt,yu,yw,yx],[]⟩ W:=by
 have HM:=hid hM;have HH:=hid h;have HB:=hid hB;conv=>arg 2;whnf
 apply wp_seq_k;intro Kn hKn;have HK:=hid (fun d25 d26 aam aan aao aap aaq aar aas aat aau aav aaw aax aay aaz aaA aaB aaC aaD aaE aaF V hV=>hKn _ _ (K d25 d26 aam aan aao aap aaq aar aas aat aau aav aaw aax aay aaz aaA aaB aaC aaD aaE aaF V hV));clear K hM hKn h hB;have hn':(nm:Int)≤100000:=by omega
 go_wp2;go_loopw [25,26] (fun ov v wr=>∃ k:Nat,k≤nm∧v = .int .i64 (k:Int)∧Hid (jI (Py n0 n1 w0) 40 Wb.heap.size wr ov (na+k))∧Hid (Below Wb.heap.size Wb wr)) (fun _ v _=>nm - (intOf v).toNat)
 case atStart=>exact ⟨0,Nat.zero_le _,rfl,HM,HB⟩
 case round =>
  obtain ⟨k,hk,rfl,hN,hBr⟩:=hrel;by_cases hlt:k < nm
  ·have hNl:=hN.out
   obtain ⟨va',vc',rfl,_⟩:=hNl.slice;have hlt':(k:Int) < (nm:Int):=by omega
   have hk0:(0:Int)≤(k:Int):=by omega
   obtain ⟨g,cap,aL,nL,cL,aR,nR,cR,e,hg,c1,c2,iL,iR⟩:=HH.out.elem hlt;cases e;have hA3:=hBr.out.alloc hBr.out.size (.cells #[.slice aL nL cL,.slice aR nR cR] 40);have gI:Hid (∀ V:World,V.heap = (wr.alloc (.cells #[.slice aL nL cL,.slice aR nR cR] 40)).heap→jI (Py n0 n1 w0) 40 Wb.heap.size V (.slice va' (na+k) vc') (na+k)):=fun V hV=>hNl.keep fun b hb=>by rw [hV];exact Below.heap_alloc wr _ b hb
   have KI:Hid (∀ V:World,V.heap = (wr.alloc (.cells #[.slice aL nL cL,.slice aR nR cR] 40)).heap→V.cell? ⟨wr.heap.size,0,none⟩ = some (.slice aL nL cL)):=fun V hV=>(aM (show V.heap[wr.heap.size]? = _ by rw [hV];exact World.alloc_heap_new wr _) 0).trans rfl
   have hblk1:Hid (∀ V:World,V.heap = (wr.alloc (.cells #[.slice aL nL cL,.slice aR nR cR] 40)).heap→V.cell? ⟨wr.heap.size,1,none⟩ = some (.slice aR nR cR)):=fun V hV=>(aM (show V.heap[wr.heap.size]? = _ by rw [hV];exact World.alloc_heap_new wr _) 1).trans rfl
   have hSw:=hid (fun (V:World) (hV:∀ b,b < Wb.heap.size→V.heap[b]? = Wb.heap[b]?)=>(show V.cell? ⟨g,k * 2,none⟩ = some (.slice aL nL cL)∧V.cell? ⟨g,k * 2+1,none⟩ = some (.slice aR nR cR) from ⟨(World.cell?_of_block (a:=⟨g,k * 2,none⟩) (hV g hg)).trans c1,(World.cell?_of_block (a:=⟨g,k * 2+1,none⟩) (hV g hg)).trans c2⟩));have hS0:=hSw.out wr hBr.out.block;have hSd:=hSw.out wr.drew hBr.out.block;have DJ:=hid (fun (V:World) (hV:V.heap = (wr.alloc (.cells #[.slice aL nL cL,.slice aR nR cR] 40)).heap)=>hSw.out V fun b hb=>by rw [hV];exact hA3.block b hb);have hS5:=hid (fun (V V':World) (hV:V.heap = (wr.alloc (.cells #[.slice aL nL cL,.slice aR nR cR] 40)).heap) (hB:Below Wb.heap.size V V')=>hSw.out V' fun b hb=>(hB.block b hb).trans (by rw [hV];exact hA3.block b hb));have hbs:=hBr.out.size;have HA3:=hid hA3;clear hA3 hN c1 c2 hNl;go_wp2_with fail;go_region_held3 (fun w'=>w'.cell? ⟨g,k * 2,none⟩ = some (.slice aL nL cL)∧w'.cell? ⟨g,k * 2+1,none⟩ = some (.slice aR nR cR)) (first | assumption | exact hS0 | exact hSd | exact DJ.out _ (by rfl))
    ((refine NW (fun _ h=>Py.one h) _ (by rfl) _ _ (by rfl) Wb.heap.size (.slice va' (na+k) vc') (na+k) (by rfl) (gI.out _ (by rfl)) wr.heap.size (.slice aL nL cL) (.slice aR nR cR) (by rfl) (KI.out _ (by rfl)) (hblk1.out _ (by rfl)) iL iR (by omega) (by simp;omega) ?_;intro gg cc w5 mV gq;have s5:=hS5.out _ _ (by rfl) gq))
   all_goals (
    have HB5:Hid (Below Wb.heap.size Wb w5):=by first | exact (below_drewN HA3.out 1).trans gq | exact HA3.out.trans gq | exact (HA3.out.drew).trans gq
    have HN5:=hid mV;clear s5 mV gq gI KI hblk1 iL iR DJ hS5 hSw hS0 hSd;go_wp2;go_roundw
    case rel=>exact ⟨k+1,by omega,by go_num,HN5,HB5⟩
    case measure=>simp [intOf];omega)
  ·obtain rfl:k = nm:=by omega
   go_wp2;exact HK.out _ _ _ _ _ _ _ _ _ _ _ _ _ _ _ _ _ _ _ _ _ _ _ ⟨hN.out,hBr.out⟩
end
theorem Pz {W:World} {b b':Nat} {e:TypeId} {k:Nat} {v:Value} {n:Nat} {us:List Value} (h:W.ownsRow b e k v n us) (hb:b'≤b):W.ownsRow b' e k v n us :=
 ⟨h.1,h.2.imp id fun ⟨g,cap,cur,h1,h2,r⟩=>⟨g,cap,cur,h1,Nat.le_trans hb h2,r⟩⟩
theorem fI.low {W:World} {b b':Nat} {v:Value} {l:jh} (h:fI b W v l) (hb:b'≤b):fI b' W v l:=by
 obtain ⟨us,h1,h2⟩:=h;exact ⟨us,Pz h1 hb,fun j hj=>let ⟨u,q1,q2,q3,q4⟩:=h2 j hj;⟨u,q1,q2,q3,Pz q4 hb⟩⟩
theorem bX.low {W:World} {b b':Nat} {a:Option Addr} {zs:List Int} (h:bX false b W a zs) (hb:b'≤b):bX false b' W a zs:=fun j hj=>by
 obtain ⟨g,off,e,hor,r⟩:=h j hj;rcases hor with ⟨h1,_⟩ | ⟨h1 | ⟨h1,h2⟩,h3⟩
 ·cases h1
 ·cases h1
 ·exact ⟨g,off,e,.inr ⟨.inr ⟨Nat.le_trans hb h1,h2⟩,h3⟩,r⟩
theorem aU.low {W:World} {e:TypeId} {sb b b':Nat} {v:Value} {l:ah} (h:aU false e sb b W v l) (hb:b'≤b):aU false e sb b' W v l:=by
 obtain ⟨us,h1,h2⟩:=h;exact ⟨us,h1,fun j hj=>let ⟨aL,cL,aR,cR,q1,q2,q3,q4,r⟩:=h2 j hj;⟨aL,cL,aR,cR,q1,q2,q3.low hb,q4.low hb,r⟩⟩
theorem fI.lens {W:World} {b:Nat} {v:Value} {l:jh} (h:fI b W v l):l.length≤maxLen∧∀ j,j < l.length→(l[j]?.getD (0,0,[])).2.2.length≤maxLen:=by
 obtain ⟨us,h1,h2⟩:=h;refine ⟨?_,fun j hj=>?_⟩
 ·rcases h1.2 with ⟨_,h0⟩ | ⟨g,cap,cur,_,_,_,q1,q2,_⟩
  ·omega
  ·omega
 ·obtain ⟨u,_,_,_,hu⟩:=h2 j hj
  obtain ⟨_,_,_,_,q1,q2⟩:=New.ints hu;omega
theorem dG.ahj {n0 n1:Nat} {w W:World} {v:Value} {ss:List (List Int)} (h:dG n1 w v ss) (hM:Mid n0 n1 w W):dG n1 W v ss:=by
 obtain ⟨us,h1,h2⟩:=h;have hk:∀ {e k v n us},w.ownsRow n1 e k v n us→W.ownsRow n1 e k v n us:=fun h=>og h fun q hq=>hM.high (World.ownsRow.lt h q hq).1 (World.ownsRow.lt h q hq).2
 exact ⟨us,hk h1,fun j hj=>let ⟨u,q1,q2⟩:=h2 j hj;⟨u,q1,hk q2⟩⟩
theorem rt4 {w W:World} {a0 x3 aP aQ:Option Addr} {cap0 mW cap2 bt ot be oe bP oP bQ oQ cP cQ k3 k4 n4 d4:Nat} {rs:aH} {ps:ah} {t P Q:List Int}
 (I:InR w a0 cap0 rs bt ot mW t be oe cap2 ps bP oP cP P bQ oQ cQ Q) (B:Below w.heap.size w W) (hw:Ints W.heap.size W x3 t) (hf:W.cell? ⟨k4,0,none⟩ = some (.slice aP P.length n4)∧W.cell? ⟨k4,1,none⟩ = some (.slice aQ Q.length d4)∧k4 < W.heap.size) (iP:Ints W.heap.size W aP P) (iQ:Ints W.heap.size W aQ Q) {c3 c4 c5 c6 c9 c10 c11 c12 c13 c14 c15 c16 c17 c18 c19 c20 c21 Pt c23 c24 Vj Pv Pw c28 Px MU c31 c32 MV c34 MW MX c37 MZ M0 c40 Jl M5 M7 M8 Nb c46 Nc Nf c49 Ng c51 Nh c53 Ni Nj Nk Nl Nn c59 Np Nq Nr Ns c64 Nt Nu Nv Nw Ny c70 Nz c72 NA NB c75 c76 NC ND NF c80 NG NH NI NJ c85 NK c87 NL NM NN c91 NP c93 NQ NR NS NT NU NV sS sU sV sW sZ c105 tq c107 tu c109 tC tF tH tJ tK tL c116 c117 tN c119 tO tQ tT zL c124 zM zN c127 zO zQ c130 c131 zS zT zU zV zX zY c138 c139 zZ c141 z8 c143 Aa c145 c146 Ab c148 Ac Ad Ae c152 Af c154 Ag c156 c157 Ah c159 c160 Ai c162 Aj c164 Ak Al c167 c168 Am Ao c171 Ap c173 Aq c175 Ar Au Av Aw Ay Az c182 c183 AA AB AJ AL AO AP AQ AR AU c193 c194 AV c196 AZ c198 A7 A8 c201 A9 c203 Bb Bc c206 Be c208 Bg c210 Bh c212 c213 Bi Bj Bl Bn c218 Bo tV tX c222 tY tZ uf c226 c227 c228 c229 ug uh c232 c233 c234 ui c236 uj uk um uo uq uu uw uy uz uA uB uC uD uE uF uG uH uI uJ uK uM uN uO uP uQ uS uT uU uV uW uX uY uZ ve vg vB vD vE vF vG vH vI vJ vK vM vO vQ vS vT vU vV vW vX vY vZ wh wm wo wu wy wz wB wC wD wE wF wG wH wI wJ wK wM wN wO wQ wS wT wU wV wW wX wY wZ xg xh xk xm xn xq xu xw xx xy xz xA xB xC xD xE xG xH xI xJ xK xM xN xO xQ xS xU xV xW xX xY xZ yf yg yh yj yl ym yn yo yt yu yw yx:Value} :
 Code.wp Tryz.prog (spine 4 (Tryz.f5.body.getD .skip)) (bodyPost Tryz.prog Tryz.f5 fun e w'=>e = .returned (.bool true)∧Below w.heap.size w w') ⟨#[.slice a0 rs.length cap0,.slice (some ⟨bt,ot,none⟩) t.length mW,.slice (some ⟨be,oe,none⟩) ps.length cap2,c3,c4,c5,c6,.slice x3 t.length k3,.pointer (some ⟨k4,0,none⟩),c9,c10,c11,c12,c13,c14,c15,c16,c17,c18,c19,c20,c21,Pt,c23,c24,Vj,Pv,Pw,c28,Px,MU,c31,c32,MV,c34,MW,MX,c37,MZ,M0,c40,Jl,M5,M7,M8,Nb,c46,Nc,Nf,c49,Ng,c51,Nh,c53,Ni,Nj,Nk,Nl,Nn,c59,Np,Nq,Nr,Ns,c64,Nt,Nu,Nv,Nw,Ny,c70,Nz,c72,NA,NB,c75,c76,NC,ND,NF,c80,NG,NH,NI,NJ,c85,NK,c87,NL,NM,NN,c91,NP,c93,NQ,NR,NS,NT,NU,NV,sS,sU,sV,sW,sZ,c105,tq,c107,tu,c109,tC,tF,tH,tJ,tK,tL,c116,c117,tN,c119,tO,tQ,tT,zL,c124,zM,zN,c127,zO,zQ,c130,c131,zS,zT,zU,zV,zX,zY,c138,c139,zZ,c141,z8,c143,Aa,c145,c146,Ab,c148,Ac,Ad,Ae,c152,Af,c154,Ag,c156,c157,Ah,c159,c160,Ai,c162,Aj,c164,Ak,Al,c167,c168,Am,Ao,c171,Ap,c173,Aq,c175,Ar,Au,Av,Aw,Ay,Az,c182,c183,AA,AB,AJ,AL,AO,AP,AQ,AR,AU,c193,c194,AV,c196,AZ,c198,A7,A8,c201,A9,c203,Bb,Bc,c206,Be,c208,Bg,c210,Bh,c212,c213,Bi,Bj,Bl,Bn,c218,Bo,tV,tX,c222,tY,tZ,uf,c226,c227,c228,c229,ug,uh,c232,c233,c234,ui,c236,uj,uk,um,uo,uq,uu,uw,uy,uz,uA,uB,uC,uD,uE,uF,uG,uH,uI,uJ,uK,uM,uN,uO,uP,uQ,uS,uT,uU,uV,uW,uX,uY,uZ,ve,vg,vB,vD,vE,vF,vG,vH,vI,vJ,vK,vM,vO,vQ,vS,vT,vU,vV,vW,vX,vY,vZ,wh,wm,wo,wu,wy,wz,wB,wC,wD,wE,wF,wG,wH,wI,wJ,wK,wM,wN,wO,wQ,wS,wT,wU,wV,wW,wX,wY,wZ,xg,xh,xk,xm,xn,xq,xu,xw,xx,xy,xz,xA,xB,xC,xD,xE,xG,xH,xI,xJ,xK,xM,xN,xO,xQ,xS,xU,xV,xW,xX,xY,xZ,yf,yg,yh,yj,yl,ym,yn,yo,yt,yu,yw,yx],[]⟩ W:=by
 have cF:=hid (om rs t a0 (some ⟨bt,ot,none⟩) cap0 mW W (I.R W B) (I.T W B) I.ht.1 I.ht.2.1);conv=>arg 2;whnf
 go_wp2_with fail;refine cF.out.mono ?_;clear cF;rintro e V5 ⟨vx,rfl,nx,b5⟩;have B5:=B.trans (b5.mono B.size);have cS:=hid (BO rs t a0 (some ⟨bt,ot,none⟩) cap0 mW V5 (I.R V5 B5) (I.T V5 B5) I.ht.1 I.ht.2.1);go_wp2_with fail;refine cS.out.mono ?_;clear cS;rintro e V6 ⟨vs,rfl,ns,b6⟩;have B6:=B5.trans (b6.mono B5.size);have cA:=hid (J6 rs a0 cap0 V6 (I.R V6 B6) (Nat.le_trans I.hr.1 I.hr.2.1));go_wp2_with fail;refine cA.out.mono ?_;clear cA;rintro e V7 ⟨er7,ps7,vp,XP,rfl,np,b7⟩;have B7:=B6.trans (b7.mono B6.size);go_wp2_with fail;refine (EZ V7).mono ?_;rintro e V8 ⟨ak,rfl,ik,b8⟩;have B8:=B7.trans (b8.mono B7.size);have cU:=hid (Ko rk6 rs ps ak a0 (some ⟨be,oe,none⟩) 6 cap0 cap2 V8 ik (I.R V8 B8) (I.E V8 B8) I.he.1 I.he.2.1);go_wp2_with fail;refine cU.out.mono ?_;clear cU;rintro e V9 ⟨er9,rs9,ps9,vm,vq,KX,rfl,nm,nq,b9⟩;have B9:=B8.trans (b9.mono B8.size);have XN:0 < ps.length:=I.he.2.2;have hpos:(0:Int) < (ps.length:Int):=by omega
 have hS9:=hid (fun V (hV:Below V9.heap.size V9 V)=>I.cl V (B9.trans (hV.mono B9.size)));have cM:=hid (fun V (hV:Below V9.heap.size V9 V)=>EJ P Q (some ⟨bP,oP,none⟩) (some ⟨bQ,oQ,none⟩) cP cQ V (I.iP V (B9.trans (hV.mono B9.size))) (I.iQ V (B9.trans (hV.mono B9.size))) I.hp.1 I.hp.2.1 I.hq.1 I.hq.2.1);have d8:=b8.trans (b9.mono b8.size);have d7:=b7.trans (d8.mono b7.size);have d6:=b6.trans (d7.mono b6.size);have d5:=b5.trans (d6.mono b5.size);obtain ⟨ax,cx,rfl,_,mx,mx'⟩:=New.ints nx;have Hd5:=hid d5;have Hd6:=hid d6;have Hd7:=hid d7;have Hd8:=hid d8;have Hb9:=hid b9;have Hnx:=hid nx;have Hns:=hid (ns.low b5.size);have Hnp:=hid (fO.x (fl:=false) (eb:=W.heap.size) np (.inr (Nat.le_trans b5.size b6.size)));have YL:W.heap.size≤V8.heap.size:=Nat.le_trans b5.size (Nat.le_trans b6.size (Nat.le_trans b7.size b8.size));have XL:=hid (nm.low YL);have Hnq:=hid (nq.low YL);have HI:=hid I;have HB9:=hid B9;have Hs7:=hid XP;have Hs9:=hid KX;have Hw:=hid hw;have Hf:=hid hf;have HP:=hid iP;have HQ:=hid iQ;have HBW:=hid B;clear nx ns np nm nq d5 d6 d7 d8 b5 b6 b7 b8 b9 B B5 B6 B7 B8 B9 I XP KX ik hw hf iP iQ;go_upto_region 9 with fail
 rename_i Kn hKn;go_cut [19,20,21] (fun x y z wx=>∃ er is val,y = .bool is∧Hid (Tm.dQ [(P,Q)] er is val)∧Hid (dG V9.heap.size wx x val)∧Below V9.heap.size V9 wx)
 case first =>
  go_region_held3 (fun w'=>w'.cell? ⟨be,oe,none⟩ = some (.slice (some ⟨bP,oP,none⟩) P.length cP)∧w'.cell? ⟨be,oe+1,none⟩ = some (.slice (some ⟨bQ,oQ,none⟩) Q.length cQ)) (first | assumption | exact hS9.out _ (below_drewN (Below.refl _ V9) 1) | exact hS9.out _ b10)
   ((go_at_call 21;refine (cM.out _ (below_drewN (Below.refl _ V9) 1)).mono ?_;rintro e V10 ⟨aho,er,is,val,vu,sM,rfl,nu⟩;have b10:=(below_drewN (Below.refl _ V9) 1).trans aho))
  all_goals (
   have HsM:=hid sM;have Hnu:=hid nu;clear sM nu;go_wp2_with fail;go_meet;exact ⟨er,is,val,rfl,HsM,Hnu,b10⟩)
 case rest =>
  obtain ⟨er,is,val,rfl,sM,nu,b10⟩:=hcut;refine hKn _ _ ?_;clear hKn Kn cM hS9;have e0:=Hd5.out.trans (b10.mono Hd5.out.size);have e5:=Hd6.out.trans (b10.mono Hd6.out.size);have e6:=Hd7.out.trans (b10.mono Hd7.out.size);have e7:=Hd8.out.trans (b10.mono Hd8.out.size);have l7:=Hs7.out.lens;have l9:=Tm.Gy Hs9.out;have l71:=l7.1;have l91:=l9.1.1;have l92:=l9.2.1;obtain ⟨_,_,e,wx⟩:=New.wr (n1:=V9.heap.size) Hnx.out Hd6.out.size e5;cases e;have lS:=Hns.out.lens;obtain ⟨asl,cs,rfl,ws⟩:=fI.mid (n1:=V9.heap.size) Hns.out Hd7.out.size e6;obtain ⟨am,cm,rfl⟩:=XL.out.slice;obtain ⟨au,cu,rfl,_⟩:=dG.subs nu.out;refine rt9 wx (Nat.le_trans mx mx') (Mid.refl W.heap.size V9.heap.size wc) (fun _ _ _ _ _ _ _ _ _ _ V10 ahp=>?_);refine ahc (len:=fun j=>((Tm.bD rs t)[j]?.getD (0,0,[])).2.2.length) ws lS.1 lS.2 ahp (fun _ _ _ _ _ _ _ _ _ _ _ _ _ _ _ _ _ _ _ _ _ _ _ _ _ V11 WM=>?_);have rp:=Hnp.out.rowE (by decide) Hd8.out.size e7 WM;have rq:=Hnq.out.rowE (by decide) (Nat.le_refl _) b10 WM;have rm:=XL.out.rowE (by decide) (Nat.le_refl _) b10 WM;refine ahf (fun _ h=>Py.one h) rp rq (by omega) (fun _ _ _ _ _ _ Vk h12=>?_);refine ahg rm h12.1 h12.2 (by omega) (fun d25 _ _ _ _ _ _ _ _ _ _ _ _ _ _ _ _ _ _ _ _ _ V13 Qc=>?_);have ads:=WM.below e0.size Qc.2;obtain ⟨l1,l2,hlen,aa,ca,rfl,hna,hrow⟩:=Qc.1.mid (by decide) ads;refine ahd hrow hna hlen (Mid.refl W.heap.size V9.heap.size V13) (fun _ _ _ _ _ _ _ _ _ _ _ _ _ _ _ _ _ _ _ _ _ _ _ _ _ _ _ _ _ _ _ _ _ _ _ _ _ _ _ _ _ _ _ V14 ahq=>?_);have hM:=ads.trans ahq;have bW:=e0.trans hM.low;have hlt:=Hf.out.2.2;have hsz:=bW.size;obtain ⟨_,_,e,su,_⟩:=dG.subs (nu.out.ahj hM);cases e;exact ag9 HI.out (HBW.out.trans (bW.mono HBW.out.size)) ⟨Hw.out.at2 bW,⟨(bW.cell (p:=⟨k4,0,none⟩) hlt).trans Hf.out.1,(bW.cell (p:=⟨k4,1,none⟩) hlt).trans Hf.out.2.1,by omega⟩,HP.out.at2 bW,HQ.out.at2 bW,Hs7.out,Hs9.out,sM.out,su⟩
end Go.Proofs.YtglohanbpjaieaaGreat
