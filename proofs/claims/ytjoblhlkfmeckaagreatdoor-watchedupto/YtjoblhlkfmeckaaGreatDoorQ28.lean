import Derived.Test.YtjoblhlkfmeckaaGreatDoorQ27
import Derived.Test.YtjoblhlkfmeckaaGreatDoorQ18
import Derived.Test.YtjoblhlkfmeckaaGreatDoorQ25
set_option maxHeartbeats 4000000
set_option maxRecDepth 100000
set_option linter.unusedVariables false
set_option linter.unusedSimpArgs false
open Go renaming undef → yj,World → qq,Value → tj,Code → s9,Oper → gz,yielded → iw
open Go.Proofs.Tryz renaming prog → ly,f3 → rf
open Option renaming none → od,some → lp
open Bool renaming true → s7,false → vp
open Go.Region renaming wanted → br
open Go.IntKind renaming wrap_i64 → yq,i64 → tz
open Go.ByteArray renaming toList_eq → sd
open Go.Value renaming int → rl,string → pt,slice → cf,bool → gf
open Orch
theorem Myc{p:Prop}(h:p:=by
 simp only [aT,z4,zp,zd]
 omega):p:=h
theorem L35{p:Prop}(h:p:=by
 simp only [dY,eD,N6,Hu,bM,bU]
 rfl):p:=h
theorem M56{p q:Prop}(k:q)(h:Hd q->p:=by
 intro kz
 refine B5.tp 9 Cl E4 (fun a w S d h=>Cm a w S d _ h) hI ?_;walk_nrm
 exact kz.1):p:=h ⟨k⟩
theorem Fon{p q:Prop}(k:q)(h:Hd q->p:=by
 intro kz
 refine B5.tp 7 Cl E4 (fun a w S d h=>Cm a w S d _ h) hI ?_;walk_nrm
 exact kz.1):p:=h ⟨k⟩
theorem Nfn{p q:Prop}(k:q)(h:Hd q->p:=by
 intro kz
 refine B5.tp 6 Cl E4 (fun a w S d h=>Cm a w S d _ h) hI ?_;walk_nrm
 exact kz.1):p:=h ⟨k⟩
theorem Bxb{p q:Prop}(k:q)(h:Hd q->p:=by
 intro kz
 refine B5.tp 5 Cl E4 (fun a w S d h=>Cm a w S d _ h) hI ?_;walk_nrm
 exact kz.1):p:=h ⟨k⟩
theorem Uhc{p q:Prop}(k:q)(h:Hd q->p:=by
 intro kz
 refine B5.tp 4 Cl E4 (fun a w S d h=>Cm a w S d _ h) hI ?_;walk_nrm
 exact kz.1):p:=h ⟨k⟩
theorem Hbz{p q:Prop}(k:q)(h:Hd q->p:=by
 intro kz
 refine B5.tp 15 Cl E4 (fun a w S d h=>Cm a w S d _ h) hI ?_;walk_nrm
 exact kz.1):p:=h ⟨k⟩
theorem Rlg{p q:Prop}(k:q)(h:Hd q->p:=by
 intro kz
 refine B5.tp 12 Cl E4 (fun a w S d h=>Cm a w S d _ h) hI ?_;walk_nrm
 exact kz.1):p:=h ⟨k⟩
theorem D55{p q:Prop}(k:q)(h:Hd q->p:=by
 intro kz
 refine B5.tp 11 Cl E4 (fun a w S d h=>Cm a w S d _ h) hI ?_;walk_nrm
 exact kz.1):p:=h ⟨k⟩
theorem Xzx{p q:Prop}(k:q)(h:Hd q->p:=by
 intro kz
 refine B5.tp 10 Cl E4 (fun a w S d h=>Cm a w S d _ h) hI ?_;walk_nrm
 exact kz.1):p:=h ⟨k⟩
theorem Rjn{p q:Prop}(k:q)(h:Hd q->p:=by
 intro kz
 refine B5.take (i:=16) (x:=.bool true) Cl E4 (fun a w S d h=>Cm a w S d _ h) rfl Aa Aa Aa Aa (Lc Ac (fun w=>by walk_nrm;simp [go_sem,hpe])) hI ?_
 exact kz.1):p:=h ⟨k⟩
theorem Lbw{p q:Prop}(k:q)(h:Hd q->p:=by
 intro kz
 refine B5.tp 3 Cl E4 (fun a w S d h=>Cm a w S d _ h) hI ?_;walk_nrm
 exact kz.1):p:=h ⟨k⟩
theorem Nhj{p q:Prop}(k:q)(h:Hd q->p:=by
 intro kz
 refine B5.tp 1 Cl E4 (fun a w S d h=>Cm a w S d _ h) hI ?_;walk_nrm
 exact kz.1):p:=h ⟨k⟩
theorem N68{p q:Prop}(k:q)(h:Hd q->p:=by
 intro kz
 refine B5.tp 0 Cl E4 (fun a w S d h=>Cm a w S d _ h) hI ?_;walk_nrm
 exact kz.1):p:=h ⟨k⟩
theorem Lkb{p q:Prop}(k:q)(h:Hd q->p:=by
 intro kz
 refine B5.tp 20 Cl E4 (fun a w S d h=>Cm a w S d _ h) hI ?_;walk_nrm
 exact kz.1):p:=h ⟨k⟩
theorem Oxz{p q:Prop}(k:q)(h:Hd q->p:=by
 intro kz
 refine B5.tp 18 Cl E4 (fun a w S d h=>Cm a w S d _ h) hI ?_;walk_nrm
 exact kz.1):p:=h ⟨k⟩
theorem Oku{p q:Prop}(k:q)(h:Hd q->p:=by
 intro kz
 refine B5.tp 17 Cl E4 (fun a w S d h=>Cm a w S d _ h) hI ?_;walk_nrm
 exact kz.1):p:=h ⟨k⟩
theorem Npg{p q:Prop}(k:q)(h:Hd q->p:=by
 intro kz
 refine B5.take (i:=2) (x:=.bool true) Cl E4 (fun a w S d h=>Cm a w S d _ h) rfl Aa Aa Aa Aa (Lc Ac (fun w=>by walk_nrm;simp [go_sem,hn1])) hI ?_
 exact kz.1):p:=h ⟨k⟩
theorem By1{p q:Prop}(k:q)(h:Hd q->p:=by
 intro kz
 refine B5.only (i:=14) Aa (.call _ 7 _ _ _ rfl Ac rfl (by walk_nrm;exact O2 (Post:=Post) (g:=7) Ad (.string (Ce x.a x.b)) hI.1 hI.2.1 (fun v=>Iy v x.a x.b hx.2.1 hx.2.2.1)) ?_)
 exact kz.1):p:=h ⟨k⟩
theorem Jiv{p q:Prop}(k:q)(h:Hd q->p:=by
 intro kz
 walk_nrm
 refine M56 ?_
 refine Xzx ?_
 refine D55 ?_
 refine Rlg ?_
 exact kz.1):p:=h ⟨k⟩
theorem U5v{p q:Prop}(k:q)(h:Hd q->p:=by
 intro kz
 walk_nrm
 refine Rjn ?_
 walk_nrm
 refine Oku ?_
 refine Oxz ?_
 refine B5.tp 19 Cl E4 (fun a w S d h=>Cm a w S d _ h) hI ?_;walk_nrm
 refine Lkb ?_
 refine B5.all Aa ?_ _
 simp only [Cn]
 exact kz.1):p:=h ⟨k⟩
theorem Ado{p q:Prop}(k:q)(h:Hd q->p:=by
 intro kz
 refine Oku ?_
 refine Oxz ?_
 refine B5.take (i:=19) Cl E4 (fun a w S d h=>Cm a w S d _ h) rfl Aa Aa Aa Aa (Kk Ac) hI ?_;walk_nrm
 refine Lkb ?_
 refine B5.all Aa ?_ _
 simp only [Cn]
 refine Bhr ?_
 refine Eh ?_
 exact kz.1):p:=h ⟨k⟩
theorem Ae4{p q:Prop}(k:q)(h:Hd q->p:=by
 intro kz
 refine N68 ?_
 refine Nhj ?_
 refine Npg ?_
 walk_nrm
 refine Lbw ?_
 refine Uhc ?_
 refine Bxb ?_
 refine Nfn ?_
 refine Fon ?_
 exact kz.1):p:=h ⟨k⟩
theorem Nbp{p q:Prop}(k:q)(h:Hd q->p:=by
 intro kz
 simp only [SF,X6,Fy,Gp,b3,Code.yes,Code.core,Code.one,Code.two,Tryz.f3,aN]
 simp only [E3,hs.h0,hs.h3,hs.h11,hs.h12,hs.h13,hs.h14,hs.h15,hs.h16,h19,h20,h22,h24,h26,h28]
 refine A9 ?_
 exact kz.1):p:=h ⟨k⟩
theorem Mkk{p q:Prop}(k:q)(h:Hd q->p:=by
 intro kz
 have Cl:=Sz.at B (O+i * 6) x
 have E4:∀w S,Sz B (O+i * 6) x w S->Bf S w:=fun w S h=>h.1
 have hn1:¬num+1=num:=Ab
 refine Nbp ?_
 refine N4 (I:=Sz B (O+i * 6) x) fun d=>?_
 have hI:Sz B (O+i * 6) x (w.at d) Shun:=⟨hS,hnf,⟨hA.ex⟩,hnb⟩
 have k0:Ar w (w.at d) (fun _=>False):=⟨rfl,rfl,rfl,aA _,fun _ _ _=>rfl⟩
 generalize w.at d=wd at hI k0 ⊢
 have Cm:∀(a:Act) (w:World) (S:Loc->Prop) (d:Nat) (c:Code),Jq Tryz.prog Post 3 c Q a w S->Jq Tryz.prog Post 3 c Q a (w.at d) S:=fun a w S d c h=>Vd h d
 refine Ae4 ?_
 revert Cl E4 hn1 d wd hI k0 Cm
 exact kz.1):p:=h ⟨k⟩
theorem I42{p:Prop}(h:p:=by
 rw [e]
 exact hQ _ _ hs hk hk' hk'' hk3 Ia h1 h2 h3):p:=h
theorem D2z{p:Prop}(h:p:=by
 exact hQ' _ _ rfl ⟨rfl,rfl,rfl,rfl,rfl,rfl,rfl,rfl⟩ rfl rfl rfl rfl rfl k2 n2 S2):p:=h
theorem Kzf{p:Prop}(h:p:=by
 walk_nrm
 refine Ecj ?_
 refine Cy (t:=true) Ac ?_
 rw [aQ rfl]
 exact hY _ _ _ rfl ⟨rfl,rfl,rfl,rfl,rfl,rfl,rfl,rfl⟩ rfl rfl):p:=h
theorem Iy8{p q:Prop}(k:q)(h:Hd q->p:=by
 intro kz
 have k47:Dh gN w4 w7:=fun j ob hj hk=>by
  have g5:=K5.get hj id
  exact Dze
 have A7:=A4.keep k47 hBg
 revert k47 A7
 exact kz.1):p:=h ⟨k⟩
theorem Dze{p:Prop}(h:p:=by
 have g6:=K6.get g5 (by have:=h5.g2;show ¬j=s2;omega)
 exact K7.get g6 (by have:=h6.g1;show ¬j=s1;omega)):p:=h
namespace Go.Proofs.YtjoblhlkfmeckaaGreatDoor
open Go Go.Conc Go.Pair Go.RowKit Go.Maps
noncomputable def E3(f:Nat->tj):Act:={ tmps:=#[f 0,f 1,f 2,f 3,f 4,f 5,f 6,f 7,f 8,f 9,f 10,f 11,f 12,f 13,f 14,f 15,f 16,f 17,f 18,f 19,f 20,f 21,f 22,f 23,f 24,f 25,f 26,f 27,f 28,f 29,f 30,f 31,f 32,f 33,f 34,f 35,f 36,f 37,f 38,f 39,f 40,f 41,f 42,f 43,f 44,f 45,f 46,f 47,f 48,f 49,f 50,f 51,f 52,f 53,f 54,f 55,f 56,f 57,f 58,f 59,f 60,f 61,f 62,f 63,f 64,f 65,f 66,f 67,f 68,f 69,f 70,f 71,f 72,f 73,f 74,f 75,f 76,f 77,f 78,f 79,f 80,f 81,f 82,f 83,f 84,f 85,f 86,f 87,f 88,f 89,f 90,f 91,f 92,f 93,f 94,f 95,f 96,f 97,f 98,f 99,f 100,f 101,f 102,f 103,f 104,f 105,f 106,f 107,f 108,f 109,f 110,f 111,f 112,f 113,f 114,f 115,f 116,f 117,f 118,f 119,f 120,f 121,f 122,f 123,f 124,f 125,f 126,f 127,f 128,f 129,f 130,f 131,f 132,f 133,f 134,f 135,f 136,f 137,f 138,f 139,f 140,f 141,f 142,f 143,f 144,f 145,f 146,f 147,f 148,f 149,f 150,f 151,f 152,f 153,f 154,f 155,f 156,f 157,f 158,f 159,f 160,f 161,f 162,f 163,f 164,f 165,f 166,f 167,f 168,f 169,f 170,f 171],defers:=[] }
noncomputable def b3:s9:=Tryz.f3.body.getD .skip
noncomputable def Gp:s9:=Code.core (Code.core (Code.two (Code.one (Code.two (Code.two (Code.two (Code.two (Code.two (Code.two (Code.two (Code.two b3)))))))))))
noncomputable def Fy:s9:=Code.core (Code.one (Code.two Gp))
structure Im(az sm:tj)(Cp:Nat)(P:ByteArray)(wt:Bool)(i:Int)(f:Nat->tj):Prop where
 h0:f 0=az
 h3:f 3=sm
 h11:f 11=.pointer (lp ⟨Cp,0,od⟩)
 h12:f 12=rl tz 1
 h13:f 13=rl tz 2
 h14:f 14=pt P
 h15:f 15=gf wt
 h16:f 16=rl tz i
section
variable {Post:Da} {Shun:Loc->Prop} {w:qq}
theorem O2{g:FuncId}(hf:g∈Lv){args:Array tj}(x:tj)(hS:Bf Shun w)(hn:NF w)(H:∀v:qq,Calls ly g args v fun e v'=>e=.returned x/\Below v.heap.size v v') :
  De ly Post g args Shun w fun val w' Sh=>Sh=Shun/\val=x/\Ar w w' (fun _=>False)/\NF w'/\Bf Shun w':=
 D6 (Tk (Post:=Post) hf hS hn (X:=fun _=>False) (R:=fun y _=>y=x) fun v hv=>(H v).mono fun e v' ⟨h1,h2⟩=>⟨⟨x,h1,rfl⟩,Bp h2⟩) fun y w' Sh ⟨h1,h2,h3,h4,v',hs,h5⟩=>⟨h1,h5,h2,h3,h4⟩
end
def KS(mk:Int)(P:ByteArray):ByteArray:=b4 5++b4 mk++Dz P++⟨#[1]⟩
theorem Hu(s:ByteArray):(Dz s).data.toList=be s.data.toList.length 4++s.data.toList:=by
 unfold Dz
 rw [dY,eD,N6]
 rfl
theorem NL(mk:Int)(P:ByteArray):(KS mk P).data.toList=be 5 4++(be mk 4++(fld P++(be 1 1 ++ []))):=by
 unfold KS
 simp only [dY,eD,N6,Hu,bM]
 rfl
noncomputable def ex3:s9:=Code.yes (Code.two (Code.one Fy))
theorem Ur{Post:Da}{fn:FuncId}{Q:Exit->Act->qq->(Loc->Prop)->Prop}{a:Act}{w:qq}{Shun:Loc->Prop}{ops:Array gz}{i:Nat}{l:List Nat}{o:gz}{x y:Operand}(s t:ByteArray)(ho:ops[i]? = lp o)(hw:br o (iw ops a.tmps)=s7)(Bt:o.op=.binOp .add 9 x y 9)(hx:a.eval x=pt s)(hy:a.eval y=pt t)(Di:s.size+t.size<=1000000)(h:Gx ly Post fn ops l Q (a.put o.dst (pt (s++t))) w Shun):Gx ly Post fn ops (i :: l) Q a w Shun:=by
 have Cg:¬9223372036854775807<s.size+t.size:=Ab
 refine Dr (x:=pt (s++t)) ho hw (fun w=>?_) (fun w=>?_) h
 ·unfold execOp
  rw [Bt]
  simp only [hx,hy]
  simp [go_sem,Cg]
 ·unfold execOp
  rw [Bt]
  simp only [hx,hy]
  simp [go_sem,Op.stringOp,Cg]
section
variable {Post:Da} {valid:ByteArray->Bool} {Tabs:qq->Prop} {gN:Nat} {Shun:Loc->Prop} {w:qq} {Cp svb D K tb mb wm sm s1 s2:Nat} {lg:Option (Nat×Nat)} {last num:Int} {ns:List (ByteArray×Nd)} {ks:List tj} {p1 p2:tj} {Q:Exit->Act->qq->(Loc->Prop)->Prop} {az so:tj} {P:ByteArray} {wt:Bool} {i:Int} {f:Nat->tj}
theorem Adk(U:Jk valid Tabs)(hs:Im az so Cp P wt i f)(h:W2 Tabs gN Shun w Cp svb D K tb mb wm sm s1 s2 lg last num ns ks p1 (cf od 0 0) p2 (cf od 0 0))(hi0:0<=i)(hi1:i<=9223372036854775807)(hpa:Hq P=s7)(hps:P.size<=4)(hpv:valid P=s7)(hks:ks = []∨ks = [Dw 2 P 0])(hQ:∀f' w' Sh p2',Im az so Cp P s7 i f'->Dh gN w w'->W2 Tabs gN Sh w' Cp svb D K tb mb wm sm s1 s2 lg last num ns [Dw 2 P 0] p1 (cf od 0 0) p2' (cf od 0 0)->Q .normal (E3 f') w' Sh) :
  Jq ly Post 3 ex3 Q (E3 f) w Shun:=by
 have hQ':∀(a':Act) (w':qq) (Sh:Loc->Prop) (p2':tj),a'=E3 (fun i=>a'.tmps.getD i yj)->Im az so Cp P s7 i (fun i=>a'.tmps.getD i yj)->Dh gN w w'->W2 Tabs gN Sh w' Cp svb D K tb mb wm sm s1 s2 lg last num ns [Dw 2 P 0] p1 (cf od 0 0) p2' (cf od 0 0)->Q .normal a' w' Sh:=fun a' w' Sh p2' e hs hk hw=>by
  rw [e]
  exact hQ _ _ _ _ hs hk hw
 have z4:=Kp
 have zP:=Fj P
 have hmk0:0<=Oo i:=eF _ Ad
 have hmk1:Oo i<=2147483647:=by have:=dT i (show(0:Int)<2147483648 by decide);unfold Oo;omega
 have hI:Gy (Oo i):=⟨Ab,Ab⟩
 simp only [ex3,Fy,Gp,b3,Code.yes,Code.core,Code.one,Code.two,rf,aN]
 simp only [E3,hs.h0,hs.h3,hs.h11,hs.h12,hs.h13,hs.h14,hs.h15,hs.h16]
 refine Qvz ?_
 refine L4k ?_
 refine Cc rfl Ac rfl (by walk_nrm;exact(O2 (Post:=Post) (g:=11) Ad (pt (b4 5)) h.B.S h.B.nf (fun v=>J8 v 5 ⟨Ad,Ad⟩))) ?_
 rintro x w1 Sh1 ⟨rfl,rfl,K1,n1,S1⟩
 walk_nrm
 have h1:=h.grow K1 n1 S1
 refine Al ?_
 refine Eo (x:=(rl tz (Oo i))) rfl Ac rfl Ad S1 (by walk_nrm;exact(fun z hz=>Zu z i hi0 hi1)) ?_;walk_nrm
 refine Cc rfl Ac rfl (by walk_nrm;exact(O2 (Post:=Post) (g:=11) Ad (pt (b4 (Oo i))) S1 n1 (fun v=>J8 v _ hI))) ?_
 rintro x w2 Sh2 ⟨rfl,rfl,K2,n2,S2⟩
 walk_nrm
 have h2:=h1.grow K2 n2 S2
 refine Ur (b4 5) (b4 (Oo i)) rfl Ac rfl rfl rfl (by rw [z4,z4];omega) ?_
 walk_nrm
 refine Al ?_
 refine Cc rfl Ac rfl (by walk_nrm;exact(O2 (Post:=Post) (g:=13) Ad (pt (Dz P)) S2 n2 (fun v=>Jt v P Ab))) ?_
 rintro x w3 Sh3 ⟨rfl,rfl,K3,n3,S3⟩
 walk_nrm
 have h3:=h2.grow K3 n3 S3
 refine Ur (b4 5++b4 (Oo i)) (Dz P) rfl Ac rfl rfl rfl (by rw [aT,z4,z4,zP];omega) ?_
 walk_nrm
 refine Ur (b4 5++b4 (Oo i)++Dz P) ⟨#[1]⟩ rfl Ac rfl rfl rfl (by rw [aT,aT,z4,z4,zP];show _+1<=_;omega) ?_
 walk_nrm
 have zX:(KS (Oo i) P).size=13+P.size:=by unfold KS;rw [aT,aT,aT,z4,z4,zP];show _+1=_;omega
 have zB:=Fj (KS (Oo i) P)
 refine Cc rfl Ac rfl (by walk_nrm;exact(O2 (Post:=Post) (g:=10) Ad (pt (Dz (KS (Oo i) P))) S3 n3 (fun v=>Lu v (KS (Oo i) P) Ab))) ?_
 rintro x w4 Sh4 ⟨rfl,rfl,K4,n4,S4⟩
 walk_nrm
 have h4:=h3.grow K4 n4 S4
 refine Q7 (Dz (KS (Oo i) P)) rfl Ac rfl rfl Aa S4 n4 ?_
 intro w5 c cs fz K5 n5 S5 b5 hc hby
 walk_nrm
 have h5:=h4.grow K5 n5 S5
 have hlen:(Dz (KS (Oo i) P)).size=(be ((KS (Oo i) P).data.toList.length:Int) 4++(KS (Oo i) P).data.toList).length:=by
  rw [aH,be_length,zB]
  rfl
 have hbl:(KS (Oo i) P).data.toList.length=13+P.size:=zX
 rw [Hu] at hby
 rw [NL] at hby hlen hbl
 have hF:WR w5 w4.heap.size 0 (be ((be 5 4++(be (Oo i) 4++(fld P++(be 1 1 ++ []))):List UInt8).length:Int) 4) (be 5 4++(be (Oo i) 4++(fld P++(be 1 1 ++ [])))):=
  ⟨⟨_,_,b5⟩,hby,be_length _ _,uns_be4 _ Ab,Ab,Ab⟩
 have Cu:p2.ownBlock≠lp w4.heap.size:=fun e=>by
  obtain⟨c',h'⟩:=h4.r2.get e
  have:=Ax h'
  omega
 rw [hlen] at hc ⊢
 refine Cc rfl Ac rfl (by walk_nrm;exact(TD (Post:=Post) (bcap:=c) U h5 (Oo i) hmk0 hmk1 P hpa Ab hpv hks hF Cu hc)) ?_
 rintro x w6 Sh6 ⟨rfl,k6,z6,p2',ov,l,hl,h6,o6⟩
 walk_nrm
 refine Dc8 ?_
 obtain⟨oa,oc,hov⟩:∃oa oc,ov=cf oa l.length oc:=by
  rcases o6.2 with⟨_,h0⟩|⟨g,cap,cur,e,_⟩
  ·omega
  ·exact⟨_,_,e⟩
 subst hov
 refine Qvz ?_
 refine L4k ?_
 refine Cc rfl Ac rfl (by walk_nrm;exact(QF (Post:=Post) h6)) ?_
 rintro x w7 Sh7 ⟨rfl,rfl,K7,h7⟩
 refine Hb2 ?_
 refine Dc8 ?_
 refine B77 ?_
 refine U2i ?_
 refine Dr (x:=gf vp) rfl Ac (fun w=>by have hx:decide ((l.length:Int)<20)=vp:=Ag;walk_nrm;first|(go_simp;done)|(simp [go_sem];omega)) (fun w=>by walk_nrm;first|rfl|(go_simp;done)) ?_
 walk_nrm
 refine Ctl ?_
 refine Qxj ?_
 refine Ba ?_
 have k42:Dh gN w w7:=fun j ob hj hk=>by
  have a1:=K5.get (K4.get (K3.get (K2.get (K1.get hj id) id) id) id) id
  have a2:=k6 j ob a1 hk
  exact K7.get a2 (fun e=>by
   have e':j=s2:=e
   have:=h6.g2
   omega)
 exact hQ' _ _ _ _ rfl ⟨rfl,rfl,rfl,rfl,rfl,rfl,rfl,rfl⟩ k42 h7
end
noncomputable def r19:s9:=Code.one (Code.two Fy)
noncomputable def r20:s9:=Code.one (Code.two (Code.two Fy))
noncomputable def r21:s9:=Code.one (Code.two (Code.two (Code.two Fy)))
structure O8 where
 k:Int
 a:Int
 b:Int
 s:ByteArray
 v:Int
 wt:Bool
def O8.val(x:O8):tj:=.agg #[rl tz x.k,rl tz x.a,rl tz x.b,pt x.s,rl tz x.v,gf x.wt]
def O8.Ok(x:O8):Prop:=Gy x.k/\Gy x.a/\Gy x.b/\Gy x.v/\x.s.size<=9223372036854775807
structure Ji(w:qq)(B o:Nat)(x:O8):Prop where
 ex:∃c t fz,w.heap[B]? = lp (.cells c t fz)/\c[o]? = lp (rl tz x.k)/\c[o+1]? = lp (rl tz x.a)/\c[o+2]? = lp (rl tz x.b)/\c[o+3]? = lp (pt x.s)/\c[o+4]? = lp (rl tz x.v)/\c[o+5]? = lp (gf x.wt)
theorem Ji.keep{w w':qq}{B o:Nat}{x:O8}(h:Ji w B o x){gN:Nat}(hk:Dh gN w w')(hB:B<gN):Ji w' B o x:=by
 obtain⟨c,t,fz,h1,h2⟩:=h.ex
 exact⟨c,t,fz,hk _ _ h1 hB,h2⟩
theorem Ji.kx{w w':qq}{B o:Nat}{x:O8}(h:Ji w B o x)(hk:Ar w w' (fun _=>False)):Ji w' B o x:=by
 obtain⟨c,t,fz,h1,h2⟩:=h.ex
 exact⟨c,t,fz,hk.get h1 id,h2⟩
theorem Ji.cells{w:qq}{B o:Nat}{x:O8}(h:Ji w B o x){Shun:Loc->Prop}(hn:NF w)(hnb:¬F6 Shun B){z:qq}(hz:Cq (F6 Shun) w z) :
  z.cell? ⟨B,o,od⟩=lp (rl tz x.k)/\z.cell? ⟨B,o+1,od⟩=lp (rl tz x.a)/\z.cell? ⟨B,o+2,od⟩=lp (rl tz x.b)/\z.cell? ⟨B,o+3,od⟩=lp (pt x.s)/\z.cell? ⟨B,o+4,od⟩=lp (rl tz x.v)/\z.cell? ⟨B,o+5,od⟩=lp (gf x.wt):=by
 obtain⟨c,t,fz,h1,a0,a1,a2,a3,a4,a5⟩:=h.ex
 have g:=(hz.same hn hnb).trans h1
 exact⟨cellOf g a0,cellOf g a1,cellOf g a2,cellOf g a3,cellOf g a4,cellOf g a5⟩
section
variable {Post:Da} {valid:ByteArray->Bool} {Tabs:qq->Prop} {gN:Nat} {Shun:Loc->Prop} {w:qq} {Cp svb D K tb mb wm sm s1 s2:Nat} {lg:Option (Nat×Nat)} {last num:Int} {ns:List (ByteArray×Nd)} {ks:List tj} {p1 p2:tj} {Q:Exit->Act->qq->(Loc->Prop)->Prop} {so:tj} {P:ByteArray} {wt:Bool} {i B O n cap:Nat} {f:Nat->tj} {x:O8}
theorem Adh(hs:Im (cf (lp ⟨B,O,od⟩) n cap) so Cp P wt i f)(hi:i<n)(hn:n<=1000000000000)(hS:Bf Shun w)(hnf:NF w)(hnb:¬F6 Shun B)(hA:Ji w B (O+i * 6) x)(hx:x.Ok)(hQ:∀f',Im (cf (lp ⟨B,O,od⟩) n cap) so Cp P wt i f'->f' 19=rl tz (1+Io x.k 3)->Q .normal (E3 f') w Shun) :
  Jq ly Post 3 r19 Q (E3 f) w Shun:=by
 have hQ':∀(a':Act),a'=E3 (fun i=>a'.tmps.getD i yj)->Im (cf (lp ⟨B,O,od⟩) n cap) so Cp P wt i (fun i=>a'.tmps.getD i yj)->a'.tmps.getD 19 yj=rl tz (1+Io x.k 3)->Q .normal a' w Shun:=fun a' e hs hk=>by
  rw [e]
  exact hQ _ hs hk
 obtain⟨p0,p1'⟩:=Nr x.k (n:=3) Ad
 have g0:∀z,Cq (F6 Shun) w z->z.cell? ⟨B,O+i * 6,od⟩=lp (rl tz x.k):=fun z hz=>(hA.cells hnf hnb hz).1
 simp only [r19,Fy,Gp,b3,Code.yes,Code.core,Code.one,Code.two,rf,aN]
 simp only [E3,hs.h0,hs.h3,hs.h11,hs.h12,hs.h13,hs.h14,hs.h15,hs.h16]
 refine Bu ?_
 iterate 4(refine Al ?_)
 refine F0 (x:=(rl tz x.k)) rfl Ac Aa hS (fun vz hvz=>by have hcz:=g0 vz hvz;walk_nrm;go_simp) ?_;walk_nrm
 refine Eo (x:=(rl tz (Io x.k 3))) rfl Ac rfl Ad hS (by walk_nrm;exact(fun z hz=>Jd z x.k 3 hx.1 Ad Ad)) ?_;walk_nrm
 refine L4k ?_
 refine Ba ?_
 have hwp:IntKind.i64.wrap (1+Io x.k 3)=1+Io x.k 3:=by
  rcases(by omega:Io x.k 3=0∨Io x.k 3=1∨Io x.k 3=2) with h|h|h <;> rw [h] <;> rfl
 exact hQ' _ rfl ⟨rfl,rfl,rfl,rfl,rfl,rfl,rfl,rfl⟩ (by show Value.int tz (IntKind.i64.wrap (1+Io x.k 3))=_;rw [hwp])
theorem Adi{az kv:tj}{ii:Int}{o1 o2:tj}(hs:Im az so Cp P wt ii f)(h19:f 19=kv)(h:W2 Tabs gN Shun w Cp svb D K tb mb wm sm s1 s2 lg last num ns ks p1 o1 p2 o2)(hQ:∀f' w',Im az so Cp P wt ii f'->f' 19=kv->f' 20=rl tz num->Ar w w' (fun _=>False)->W2 Tabs gN Shun w' Cp svb D K tb mb wm sm s1 s2 lg last num ns ks p1 o1 p2 o2->Q .normal (E3 f') w' Shun) :
  Jq ly Post 3 r20 Q (E3 f) w Shun:=by
 have hQ':∀(a':Act) (w':qq),a'=E3 (fun i=>a'.tmps.getD i yj)->Im az so Cp P wt ii (fun i=>a'.tmps.getD i yj)->a'.tmps.getD 19 yj=kv->a'.tmps.getD 20 yj=rl tz num->Ar w w' (fun _=>False)->W2 Tabs gN Shun w' Cp svb D K tb mb wm sm s1 s2 lg last num ns ks p1 o1 p2 o2->Q .normal a' w' Shun:=fun a' w' e hs hk hk' h1 h2=>by
  rw [e]
  exact hQ _ _ hs hk hk' h1 h2
 simp only [r20,Fy,Gp,b3,Code.yes,Code.core,Code.one,Code.two,rf,aN]
 simp only [E3,hs.h0,hs.h3,hs.h11,hs.h12,hs.h13,hs.h14,hs.h15,hs.h16,h19]
 refine Qxj ?_
 refine Cc rfl Ac rfl (by walk_nrm;exact(WH (Post:=Post) h)) ?_
 rintro x w1 Sh1 ⟨rfl,⟨v,rfl⟩,K1,h1⟩
 refine Hb2 ?_
 exact Ba (hQ' _ _ rfl ⟨rfl,rfl,rfl,rfl,rfl,rfl,rfl,rfl⟩ rfl rfl K1 h1)
end
theorem Lc{ops:Array gz}{I:qq->(Loc->Prop)->Prop}{oi:gz}{x:tj}{a:Act}(hw:br oi (iw ops a.tmps)=s7)(hr:∀w,(execOp a.eval oi).run ly w=.ok (.value x) w):YE ops I oi x a:=⟨(fun e=>by rw [hw] at e;cases e),fun _ w S _ v _=>hr v⟩
theorem My{ops:Array gz}{I:qq->(Loc->Prop)->Prop}{oi:gz}{x:tj}{a:Act}(hw:br oi (iw ops a.tmps)=s7)(hr:∀w S,I w S->∀v,Cq (F6 S) w v->(execOp a.eval oi).run ly v=.ok (.value x) v):YE ops I oi x a:=⟨(fun e=>by rw [hw] at e;cases e),fun _ w S h v hv=>hr w S h v hv⟩
theorem Kk{ops:Array gz}{I:qq->(Loc->Prop)->Prop}{oi:gz}{a:Act}(hw:br oi (iw ops a.tmps)=vp):YE ops I oi yj a:=⟨fun _=>rfl,fun e=>by rw [hw] at e;cases e⟩
theorem B5.tp{Post:Da}{fn:FuncId}{ops:Array Oper}{Q:Exit->Act->World->(Loc->Prop)->Prop}{a:Act}{w:World}{Shun:Loc->Prop}{I:World->(Loc->Prop)->Prop}{oi:Oper}{x:Value}{fuel:Nat}{done:Array Bool}(i:Nat)(hI:∀w S d,I w S->I (w.at d) S)(E4:∀w S,I w S->Bf S w)(hQ:∀a w S d,Q .normal a w S->Q .normal a (w.at d) S)(hS:I w Shun)(h:B5 Post fn ops Q I fuel (done.setIfInBounds i true) (a.put oi.dst x) w Shun)(hi:ops[i]? = some oi:=by exact rfl)(E6:Oq Tryz.prog (Lv.contains ·) DC fn oi=true:=by kernel_rfl)(hs:Region.noSelect ops=true:=by kernel_rfl)(hf:Region.free .any ops done i=true:=by kernel_rfl)(hr:(Region.ready .any ops done).contains i=true:=by kernel_rfl)(hw:Region.wanted oi (yielded ops a.tmps)=true:=by rfl)(hx:∀w,(execOp a.eval oi).run Tryz.prog w=.ok (.value x) w:=by(intro wz;first|rfl|(go_simp;done)|(go_simp;rfl))):B5 Post fn ops Q I (fuel+1) done a w Shun:=B5.take hI E4 hQ hi E6 hs hf hr (Lc hw hx) hS h
def Sz(B o:Nat)(x:O8)(w:qq)(S:Loc->Prop):Prop:=Bf S w/\NF w/\Ji w B o x/\¬F6 S B
theorem Sz.at(B o:Nat)(x:O8)(w:qq)(S:Loc->Prop)(d:Nat)(h:Sz B o x w S):Sz B o x (w.at d) S:=⟨h.1,h.2.1,⟨h.2.2.1.ex⟩,h.2.2.2⟩
theorem GO(kd:Nat)(mk:Int)(p d:ByteArray)(v:Int)(hk:kd=1∨kd=2∨kd=3) :
  (kd=1/\(Pg kd mk p d v).data.toList=be 1 4++(be mk 4++(fld p++(fld d ++ []))))∨(kd=2/\(Pg kd mk p d v).data.toList=be 2 4++(be mk 4++(fld p++(be v 4 ++ []))))∨(kd=3/\(Pg kd mk p d v).data.toList=be 3 4++(be mk 4++(fld p++(fld d++(be v 4 ++ []))))):=by
 rcases hk with rfl|rfl|rfl
 ·refine .inl ⟨rfl,?_⟩
  show(b4 1++b4 mk++Dz p++Dz d).data.toList=_
  exact L35
 ·refine .inr (.inl ⟨rfl,?_⟩)
  show(b4 2++b4 mk++Dz p++b4 v).data.toList=_
  exact L35
 ·refine .inr (.inr ⟨rfl,?_⟩)
  show(b4 3++b4 mk++Dz p++Dz d++b4 v).data.toList=_
  exact L35
theorem GP(kd:Nat)(mk:Int)(p d:ByteArray)(v:Int)(hp:p.size<=4)(hd:d.size<=40)(hk:kd=1∨kd=2∨kd=3):(Pg kd mk p d v).size<=64/\8<=(Pg kd mk p d v).size:=by
 have z4:=Kp
 have zp:=Fj p
 have zd:=Fj d
 rcases hk with rfl|rfl|rfl
 ·show(b4 1++b4 mk++Dz p++Dz d).size<=64/\8<=(b4 1++b4 mk++Dz p++Dz d).size
  exact Myc
 ·show(b4 2++b4 mk++Dz p++b4 v).size<=64/\8<=(b4 2++b4 mk++Dz p++b4 v).size
  exact Myc
 ·show(b4 3++b4 mk++Dz p++Dz d++b4 v).size<=64/\8<=(b4 3++b4 mk++Dz p++Dz d++b4 v).size
  exact Myc
theorem LW{valid:ByteArray->Bool}{Tabs:qq->Prop}{gN:Nat}(U:Jk valid Tabs)(g8:8<=gN)(kd:Nat)(hk:kd=1∨kd=2∨kd=3)(mk:Int)(hm1:0<=mk)(hm2:mk<=2147483647)(p d:ByteArray)(v:Int)(hp:p.size<=4)(hd:d.size<=40)(hv1:-1<=v)(hv2:v<=2)(hpv:valid p=s7) :
  ∃d' v',d'.size<=40/\∀L,Yn Tabs gN L->∀x,Gz L x (Pg kd mk p d v).data.toList->Calls ly 52 #[rl tz 1,x] L fun e w'=>e=.returned (.tuple #[Mv kd mk p d' ⟨#[]⟩ v' vp,gf s7])/\Below L.heap.size L w':=by
 rcases GO kd mk p d v hk with⟨rfl,e⟩|⟨rfl,e⟩|⟨rfl,e⟩
 ·exact⟨d,0,hd,fun L gl x hb=>DU U L gl.tabs gl.table (by have:=gl.size;omega) mk hm1 hm2 p d Ab hpv x gl.rq1 Ab (e▸hb)⟩
 ·exact⟨⟨#[]⟩,v,Ad,fun L gl x hb=>DV U L gl.tabs gl.table (by have:=gl.size;omega) mk hm1 hm2 p Ab hpv x gl.rq2 v Ab Ab (e▸hb)⟩
 ·exact⟨d,v,hd,fun L gl x hb=>UJ U L gl.tabs gl.table (by have:=gl.size;omega) mk hm1 hm2 p d Ab hpv x gl.rq3 Ab v Ab Ab (e▸hb)⟩
theorem RZ(w:qq)(x:O8)(hx:x.Ok)(kd:Nat)(hk:kd=1∨kd=2∨kd=3)(mk:Int)(hm:Gy mk) :
  Calls ly 16 #[x.val,rl tz kd,rl tz mk] w fun e w'=>e=.returned (pt (Dz (Pg kd mk (Ce x.a x.b) (Ie x.s) (I0 x.v))))/\Below w.heap.size w w':=by
 obtain⟨h1,h2,h3,h4,h5⟩:=hx
 rcases hk with rfl|rfl|rfl
 ·exact Ac0 w _ _ _ _ _ _ mk h2 h3 h4 hm h5
 ·exact Ac1 w _ _ _ _ _ _ mk h2 h3 h4 hm h5
 ·exact Ac2 w _ _ _ _ _ _ mk h2 h3 h4 hm h5
section
variable {Post:Da} {fn:FuncId} {a:Act} {w:qq} {Shun:Loc->Prop}
theorem YQ{ops:Array gz}{i:Nat}{o:gz}{KK:Act->qq->(Loc->Prop)->Prop}(ho:ops[i]? = lp o)(hw:br o (iw ops a.tmps)=s7)(E6:Oq ly (Lv.contains ·) DC fn o=s7)(hS:Bf Shun w)(hn:NF w){X:Nat->Prop}{R:tj->qq->Prop}(H:∀v,Cq (F6 Shun) w v->∃x v',((execOp a.eval o).run ly v=.ok (.value x) v'∨((execOp a.eval o).run ly v=.ok .skip v'/\x=yj))/\Ar v v' X/\R x v')(Bo:∀x w',Ar w w' X->NF w'->Bf Shun w'->(∃v',Cq (F6 Shun) w' v'/\R x v')->KK (a.put o.dst x) w' Shun):Yg Post fn ops i KK a w Shun:=
 .op o (fun x v'=>∃v,Cq (F6 Shun) w v/\Ar v v' X/\R x v') ho hw E6 hS (fun v hv=>let⟨x,v',h1,h2,h3⟩:=H v hv;⟨x,v',h1,v,hv,h2,h3⟩) fun x w' v' hk hs ⟨v,hv,hX,hR⟩=>by
  exact La3
theorem OR{ops:Array gz}{i:Nat}{o:gz}{KK:Act->qq->(Loc->Prop)->Prop}(s:ByteArray){x:Operand}(ho:ops[i]? = lp o)(hw:br o (iw ops a.tmps)=s7)(Bt:o.op=.convert 9 35 x)(hx:a.eval x=pt s)(E6:Oq ly (Lv.contains ·) DC fn o=s7)(hS:Bf Shun w)(hn:NF w)(Bo:∀w' c cs fz,Ar w w' (fun _=>False)->NF w'->Bf Shun w'->w'.heap[w.heap.size]? = lp (.cells cs 5 fz)->s.size<=c->Bytes w' w.heap.size 0 s.data.toList->KK (a.put o.dst (cf (lp ⟨w.heap.size,0,od⟩) s.size c)) w' Shun):Yg Post fn ops i KK a w Shun:=by
 refine YQ ho hw E6 hS hn (X:=fun _=>False) (R:=fun y v'=>∃c cs fz,y=cf (lp ⟨w.heap.size,0,od⟩) s.size c/\s.size<=c/\v'.heap[w.heap.size]? = lp (.cells cs 5 fz)/\Bytes v' w.heap.size 0 s.data.toList) (fun v hv=>?_) fun y w' hk hn' hS' ⟨v',hs,c,cs,fz,e,hc,hb,hby⟩=>?_
 ·exact Ajo
 ·exact Kqh
end
section
variable {Post:Da} {valid:ByteArray->Bool} {Tabs:qq->Prop} {gN:Nat} {Shun:Loc->Prop} {w:qq} {Cp svb D K tb mb wm sm s1 s2:Nat} {lg:Option (Nat×Nat)} {last num:Int} {ns:List (ByteArray×Nd)} {ks:List tj} {p1 p2:tj} {Q:Exit->Act->qq->(Loc->Prop)->Prop} {so:tj} {P:ByteArray} {wt:Bool} {i B O n cap:Nat} {f:Nat->tj} {x:O8}
def VM(Tabs:qq->Prop)(gN Cp svb D K tb mb wm sm s1 s2:Nat)(lg:Option (Nat×Nat))(last num:Int)(ns:List (ByteArray×Nd))(ks:List tj)(p2:tj)(kd:Nat)(pa:ByteArray)(w':qq)(Sh:Loc->Prop):Prop:=
 ∃p1' ov l b,20<=List.length l/\w'.ownsRow b 5 1 ov l.length (A0 l)/\(W2 Tabs gN Sh w' Cp svb D K tb mb wm sm s1 s2 lg last num ns ks p1' ov p2 (cf od 0 0) ∨
    ∃lg' ns' ks' ov2,M7 lg'<=M7 lg+1000/\W2 Tabs gN Sh w' Cp svb D K tb mb wm sm s1 s2 lg' last (num+1) ns' ks' p1' ov p2 ov2/\((ks≠[Dw 2 pa 0]/\ks'=ks/\ov2=cf od 0 0)∨(ks = [Dw 2 pa 0]/\ks' = []/\w'.ownsRow b 5 1 ov2 (BC (num+1) kd pa).length (A0 (BC (num+1) kd pa)))))
theorem Adj(U:Jk valid Tabs){kd:Nat}{b20:tj}(hs:Im (cf (lp ⟨B,O,od⟩) n cap) so Cp P wt i f)(h19:f 19=rl tz kd)(h20:f 20=b20)(hkd:kd=1∨kd=2∨kd=3)(hi:i<n)(hn:n<=1000000000000)(hA:Ji w B (O+i * 6) x)(hBg:B<gN)(hx:x.Ok)(h:W2 Tabs gN Shun w Cp svb D K tb mb wm sm s1 s2 lg last num ns ks p1 (cf od 0 0) p2 (cf od 0 0))(hpa:Hq (Ce x.a x.b)=s7)(hsl:Dj (Ce x.a x.b)=s7)(hpv:valid (Ce x.a x.b)=s7)(hev:valid ⟨#[]⟩=s7)(hks:ks = []∨∃P0,ks = [Dw 2 P0 0])(Di:M7 lg<=8000000000000000000)(hnum:num+1<9223372036854775807)(Cm:∀a w S d,Q .normal a w S->Q .normal a (World.at w d) S)(hQ:∀f' w' Sh,Im (cf (lp ⟨B,O,od⟩) n cap) so Cp P wt i f'->f' 19=rl tz kd->f' 20=b20->Dh gN w w'->VM Tabs gN Cp svb D K tb mb wm sm s1 s2 lg last num ns ks p2 kd (Ce x.a x.b) w' Sh->NF w'->Bf Sh w'->Q .normal (E3 f') w' Sh) :
  Jq ly Post 3 r21 Q (E3 f) w Shun:=by
 have hQ':∀(a':Act) (w':qq) (Sh:Loc->Prop),a'=E3 (fun i=>a'.tmps.getD i yj)->Im (cf (lp ⟨B,O,od⟩) n cap) so Cp P wt i (fun i=>a'.tmps.getD i yj)->a'.tmps.getD 19 yj=rl tz kd->a'.tmps.getD 20 yj=b20->Dh gN w w'->VM Tabs gN Cp svb D K tb mb wm sm s1 s2 lg last num ns ks p2 kd (Ce x.a x.b) w' Sh->NF w'->Bf Sh w'->Q .normal a' w' Sh:=fun a' w' Sh e hs hk hk' h1 h2 h3 h4=>by
  rw [e]
  exact hQ _ _ _ hs hk hk' h1 h2 h3 h4
 have hI0:0<=Oo i:=eF _ Ad
 have hI1:Oo i<=2147483647:=by have:=dT (i:Int) (show(0:Int)<2147483648 by decide);unfold Oo;omega
 have hIm:Gy (Oo i):=⟨Ab,Ab⟩
 obtain⟨v1,v2⟩:=Sv x.v
 have zp:=Ix x.a x.b
 have zc:=N9 x.s
 obtain⟨d',ver',hd',HR⟩:=LW U h.B.g8 kd hkd (Oo i) hI0 hI1 (Ce x.a x.b) (Ie x.s) (I0 x.v) zp zc v1 v2 hpv
 have zb:=GP kd (Oo i) (Ce x.a x.b) (Ie x.s) (I0 x.v) zp zc hkd
 simp only [r21,Fy,Gp,b3,Code.yes,Code.core,Code.one,Code.two,rf,aN]
 simp only [E3,hs.h0,hs.h3,hs.h11,hs.h12,hs.h13,hs.h14,hs.h15,hs.h16,h19,h20]
 have Cl:=Sz.at B (O+i * 6) x
 have E4:∀w S,Sz B (O+i * 6) x w S->Bf S w:=fun w S h=>h.1
 refine N4 (I:=Sz B (O+i * 6) x) fun d=>?_
 have hd:=h.at d
 have hI:Sz B (O+i * 6) x (w.at d) Shun:=⟨hd.B.S,hd.B.nf,⟨hA.ex⟩,hd.B.nb hBg⟩
 have k0:Dh gN w (w.at d):=fun j ob hj _=>hj
 generalize w.at d=wd at hd hI k0 ⊢
 refine B5.tp 0 Cl E4 Cm hI ?_;walk_nrm
 refine B5.tp 1 Cl E4 Cm hI ?_;walk_nrm
 refine B5.tp 2 Cl E4 Cm hI ?_;walk_nrm
 refine B5.tp 3 Cl E4 Cm hI ?_;walk_nrm
 refine B5.tp 4 Cl E4 Cm hI ?_;walk_nrm
 refine B5.take (i:=5) (x:=x.val) Cl E4 Cm rfl Aa Aa Aa Aa (My Ac (fun w S hw v hv=>by obtain⟨c0,c1,c2,c3,c4,c5⟩:=hw.2.2.1.cells hw.2.1 hw.2.2.2 hv;walk_nrm;go_simp;rfl)) hI ?_
 walk_nrm
 refine B5.tp 6 Cl E4 Cm hI ?_;walk_nrm
 refine B5.tp 7 Cl E4 Cm hI ?_;walk_nrm
 refine B5.only (i:=8) Aa (.call _ 12 _ _ _ rfl Ac rfl (by walk_nrm;exact Tm (Post:=Post) (x:=rl tz (Oo i)) Ad hI.1 (fun z hz=>Zu z i Ab Ab)) ?_)
 rintro y w1 Sh1 ⟨rfl,rfl,d1,rfl⟩
 have hd1:=hd.at d1
 have hI1':Sz B (O+i * 6) x (wd.at d1) Sh1:=Cl _ _ d1 hI
 have k1:Dh gN w (wd.at d1):=fun j ob hj hk=>k0 j ob hj hk
 refine⟨hI1',?_⟩
 generalize wd.at d1=w1 at hd1 hI1' k1 ⊢
 walk_nrm
 refine B5.only (i:=9) Aa (.call _ 16 _ _ _ rfl Ac rfl (by walk_nrm;exact O2 (Post:=Post) (g:=16) Ad (pt (Dz (Pg kd (Oo i) (Ce x.a x.b) (Ie x.s) (I0 x.v)))) hI1'.1 hI1'.2.1 (fun v=>RZ v x hx kd hkd (Oo i) hIm)) ?_)
 rintro y w2 Sh2 ⟨rfl,rfl,K2,n2,S2⟩
 have hd2:=hd1.grow K2 n2 S2
 have a2:=hI1'.2.2.1.kx K2
 refine⟨⟨S2,n2,a2,hd2.B.nb hBg⟩,?_⟩
 walk_nrm
 generalize hab:Pg kd (Oo i) (Ce x.a x.b) (Ie x.s) (I0 x.v)=ab at *
 have zB:=Fj ab
 refine B5.only (i:=10) Aa (OR (Dz ab) rfl Ac rfl rfl Aa S2 n2 ?_)
 intro w3 c cs fz K3 n3 S3 b3 hc hby
 have hd3:=hd2.grow K3 n3 S3
 have a3:=a2.kx K3
 refine⟨⟨S3,n3,a3,hd3.B.nb hBg⟩,?_⟩
 walk_nrm
 have hlen:(Dz ab).size=(be (ab.data.toList.length:Int) 4++ab.data.toList).length:=by
  rw [aH,be_length,zB]
  rfl
 have hbl:ab.data.toList.length=ab.size:=rfl
 rw [Hu] at hby
 have hF:WR w3 w2.heap.size 0 (be (ab.data.toList.length:Int) 4) ab.data.toList:=⟨⟨_,_,b3⟩,hby,be_length _ _,uns_be4 _ Ab,Ab,Ab⟩
 have Cu:p1.ownBlock≠lp w2.heap.size:=fun e=>by
  obtain⟨c',h'⟩:=hd2.r1.get e
  have:=Ax h'
  omega
 rw [hlen] at hc ⊢
 refine B5.only (i:=11) Aa (.call _ 9 _ _ _ rfl Ac rfl (by walk_nrm;exact SL (Post:=Post) (bcap:=c) U hd3 kd hkd (Oo i) hI0 hI1 (Ce x.a x.b) d' ver' hpa hsl Ab hpv hd' hev hks Di hnum HR hF Cu hc) ?_)
 rintro y w4 Sh4 ⟨rfl,k4,z4,p1',ov,l,hl,o4,Gr⟩
 have hk04:Dh gN w w4:=fun j ob hj hk=>k4 j ob (K3.get (K2.get (k1 j ob hj hk) id) id) hk
 have hB4:Base Tabs gN Sh4 w4:=by
  rcases Gr with h'|⟨_,_,_,_,_,h',_⟩
  ·exact h'.B
  ·exact h'.B
 refine⟨⟨hB4.S,hB4.nf,a3.keep k4 hBg,hB4.nb hBg⟩,B5.all Aa ?_ _⟩
 walk_nrm
 exact hQ' _ _ _ rfl ⟨rfl,rfl,rfl,rfl,rfl,rfl,rfl,rfl⟩ rfl rfl hk04 ⟨p1',ov,l,w3.heap.size,hl,o4,Gr⟩ hB4.nf hB4.S
end
noncomputable def r22:s9:=Code.one (Code.two (Code.two (Code.two (Code.two Fy))))
noncomputable def r23:s9:=Code.one (Code.two (Code.two (Code.two (Code.two (Code.two Fy)))))
noncomputable def r24:s9:=Code.one (Code.two (Code.two (Code.two (Code.two (Code.two (Code.two Fy))))))
noncomputable def r25:s9:=Code.one (Code.two (Code.two (Code.two (Code.two (Code.two (Code.two (Code.two Fy)))))))
noncomputable def X6:s9:=Code.two (Code.two (Code.two (Code.two (Code.two (Code.two (Code.two (Code.two Fy)))))))
section
variable {Post:Da} {Tabs:qq->Prop} {gN:Nat} {Shun:Loc->Prop} {w:qq} {Cp svb D K tb mb wm sm s1 s2:Nat} {lg:Option (Nat×Nat)} {last num:Int} {ns:List (ByteArray×Nd)} {ks:List tj} {p1 p2:tj} {Q:Exit->Act->qq->(Loc->Prop)->Prop} {az so kv bv nv gv ov:tj} {P:ByteArray} {wt:Bool} {ii:Int} {f:Nat->tj} {oa qa:Option Addr} {ol oc ql qc:Nat}
theorem ZD(hs:Im az so Cp P wt ii f)(h19:f 19=kv)(h20:f 20=bv){o1 o2:tj}(h:W2 Tabs gN Shun w Cp svb D K tb mb wm sm s1 s2 lg last num ns ks p1 o1 p2 o2)(hQ:∀f' w',Im az so Cp P wt ii f'->f' 19=kv->f' 20=bv->f' 22=rl tz num->Ar w w' (fun _=>False)->W2 Tabs gN Shun w' Cp svb D K tb mb wm sm s1 s2 lg last num ns ks p1 o1 p2 o2->Q .normal (E3 f') w' Shun) :
  Jq ly Post 3 r22 Q (E3 f) w Shun:=by
 have hQ':∀(a':Act) (w':qq),a'=E3 (fun i=>a'.tmps.getD i yj)->Im az so Cp P wt ii (fun i=>a'.tmps.getD i yj)->a'.tmps.getD 19 yj=kv->a'.tmps.getD 20 yj=bv->a'.tmps.getD 22 yj=rl tz num->Ar w w' (fun _=>False)->W2 Tabs gN Shun w' Cp svb D K tb mb wm sm s1 s2 lg last num ns ks p1 o1 p2 o2->Q .normal a' w' Shun:=fun a' w' e hs hk hk' hk'' h1 h2=>by
  rw [e]
  exact hQ _ _ hs hk hk' hk'' h1 h2
 simp only [r22,Fy,Gp,b3,Code.yes,Code.core,Code.one,Code.two,rf,aN]
 simp only [E3,hs.h0,hs.h3,hs.h11,hs.h12,hs.h13,hs.h14,hs.h15,hs.h16,h19,h20]
 refine Qxj ?_
 refine Cc rfl Ac rfl (by walk_nrm;exact(WH (Post:=Post) h)) ?_
 rintro x w1 Sh1 ⟨rfl,⟨v,rfl⟩,K1,h1⟩
 refine Hb2 ?_
 exact Ba (hQ' _ _ rfl ⟨rfl,rfl,rfl,rfl,rfl,rfl,rfl,rfl⟩ rfl rfl rfl K1 h1)
theorem ZE(hs:Im az so Cp P wt ii f)(h19:f 19=kv)(h20:f 20=bv)(h22:f 22=nv){o1:tj}(h:W2 Tabs gN Shun w Cp svb D K tb mb wm sm s1 s2 lg last num ns ks p1 o1 p2 (cf qa ql qc))(hQ:∀f' w',Im az so Cp P wt ii f'->f' 19=kv->f' 20=bv->f' 22=nv->f' 24=cf qa ql qc->Ar w w' (· = s2)->W2 Tabs gN Shun w' Cp svb D K tb mb wm sm s1 s2 lg last num ns ks p1 o1 p2 (cf od 0 0)->Q .normal (E3 f') w' Shun) :
  Jq ly Post 3 r23 Q (E3 f) w Shun:=by
 have hQ':∀(a':Act) (w':qq),a'=E3 (fun i=>a'.tmps.getD i yj)->Im az so Cp P wt ii (fun i=>a'.tmps.getD i yj)->a'.tmps.getD 19 yj=kv->a'.tmps.getD 20 yj=bv->a'.tmps.getD 22 yj=nv->a'.tmps.getD 24 yj=cf qa ql qc->Ar w w' (· = s2)->W2 Tabs gN Shun w' Cp svb D K tb mb wm sm s1 s2 lg last num ns ks p1 o1 p2 (cf od 0 0)->Q .normal a' w' Shun:=fun a' w' e hs hk hk' hk'' hk3 h1 h2=>by
  rw [e]
  exact hQ _ _ hs hk hk' hk'' hk3 h1 h2
 simp only [r23,Fy,Gp,b3,Code.yes,Code.core,Code.one,Code.two,rf,aN]
 simp only [E3,hs.h0,hs.h3,hs.h11,hs.h12,hs.h13,hs.h14,hs.h15,hs.h16,h19,h20,h22]
 refine U2i ?_
 refine Cc rfl Ac rfl (by walk_nrm;exact(QF (Post:=Post) h)) ?_
 rintro x w1 Sh1 ⟨rfl,rfl,K1,h1⟩
 refine Hb2 ?_
 exact Ba (hQ' _ _ rfl ⟨rfl,rfl,rfl,rfl,rfl,rfl,rfl,rfl⟩ rfl rfl rfl rfl K1 h1)
theorem ZF(hs:Im az so Cp P wt ii f)(h19:f 19=kv)(h20:f 20=bv)(h22:f 22=nv)(h24:f 24=gv){o2:tj}(h:W2 Tabs gN Shun w Cp svb D K tb mb wm sm s1 s2 lg last num ns ks p1 (cf oa ol oc) p2 o2)(hQ:∀f' w',Im az so Cp P wt ii f'->f' 19=kv->f' 20=bv->f' 22=nv->f' 24=gv->f' 26=cf oa ol oc->Ar w w' (· = s1)->W2 Tabs gN Shun w' Cp svb D K tb mb wm sm s1 s2 lg last num ns ks p1 (cf od 0 0) p2 o2->Q .normal (E3 f') w' Shun) :
  Jq ly Post 3 r24 Q (E3 f) w Shun:=by
 have hQ':∀(a':Act) (w':qq),a'=E3 (fun i=>a'.tmps.getD i yj)->Im az so Cp P wt ii (fun i=>a'.tmps.getD i yj)->a'.tmps.getD 19 yj=kv->a'.tmps.getD 20 yj=bv->a'.tmps.getD 22 yj=nv->a'.tmps.getD 24 yj=gv->a'.tmps.getD 26 yj=cf oa ol oc->Ar w w' (· = s1)->W2 Tabs gN Shun w' Cp svb D K tb mb wm sm s1 s2 lg last num ns ks p1 (cf od 0 0) p2 o2->Q .normal a' w' Shun:=fun a' w' e hs hk hk' hk'' hk3 Ia h1 h2=>by
  rw [e]
  exact hQ _ _ hs hk hk' hk'' hk3 Ia h1 h2
 simp only [r24,Fy,Gp,b3,Code.yes,Code.core,Code.one,Code.two,rf,aN]
 simp only [E3,hs.h0,hs.h3,hs.h11,hs.h12,hs.h13,hs.h14,hs.h15,hs.h16,h19,h20,h22,h24]
 refine U2i ?_
 refine Cc rfl Ac rfl (by walk_nrm;exact(ZN (Post:=Post) h)) ?_
 rintro x w1 Sh1 ⟨rfl,rfl,K1,h1⟩
 refine Hb2 ?_
 exact Ba (hQ' _ _ rfl ⟨rfl,rfl,rfl,rfl,rfl,rfl,rfl,rfl⟩ rfl rfl rfl rfl rfl K1 h1)
theorem ZG(hs:Im az so Cp P wt ii f)(h19:f 19=kv)(h20:f 20=bv)(h22:f 22=nv)(h24:f 24=gv)(h26:f 26=ov)(hQ:∀f',Im az so Cp P wt ii f'->f' 19=kv->f' 20=bv->f' 22=nv->f' 24=gv->f' 26=ov->f' 28=pt ⟨#[]⟩->Q .normal (E3 f') w Shun) :
  Jq ly Post 3 r25 Q (E3 f) w Shun:=by
 have hQ':∀(a':Act),a'=E3 (fun i=>a'.tmps.getD i yj)->Im az so Cp P wt ii (fun i=>a'.tmps.getD i yj)->a'.tmps.getD 19 yj=kv->a'.tmps.getD 20 yj=bv->a'.tmps.getD 22 yj=nv->a'.tmps.getD 24 yj=gv->a'.tmps.getD 26 yj=ov->a'.tmps.getD 28 yj=pt ⟨#[]⟩->Q .normal a' w Shun:=fun a' e hs hk hk' hk'' hk3 Ia hk5=>by
  rw [e]
  exact hQ _ hs hk hk' hk'' hk3 Ia hk5
 simp only [r25,Fy,Gp,b3,Code.yes,Code.core,Code.one,Code.two,rf,aN]
 simp only [E3,hs.h0,hs.h3,hs.h11,hs.h12,hs.h13,hs.h14,hs.h15,hs.h16,h19,h20,h22,h24,h26]
 refine Qxj ?_
 exact Ba (hQ' _ rfl ⟨rfl,rfl,rfl,rfl,rfl,rfl,rfl,rfl⟩ rfl rfl rfl rfl rfl rfl)
end
noncomputable def SF:s9:=Code.one X6
section
variable {Post:Da} {Shun:Loc->Prop} {w:qq} {Cp:Nat} {num:Int} {Q:Exit->Act->qq->(Loc->Prop)->Prop} {az so kv gv ov:tj} {P:ByteArray} {wt:Bool} {ii:Int} {f:Nat->tj} {i B O n cap:Nat} {x:O8}
theorem Ab1(hS:Bf Shun w)(hs:Im az so Cp P wt ii f)(h19:f 19=kv)(h20:f 20=rl tz num)(h22:f 22=rl tz num)(h24:f 24=gv)(h26:f 26=ov)(h28:f 28=pt ⟨#[]⟩)(hQ:∀f' d,Im az so Cp P wt ii f'->f' 20=rl tz num->f' 22=rl tz num->f' 24=gv->f' 26=ov->f' 28=pt ⟨#[]⟩->Q .normal (E3 f') (w.at d) Shun) :
  Jq ly Post 3 SF Q (E3 f) w Shun:=by
 have hQ':∀(a':Act) (d:Nat),a'=E3 (fun i=>a'.tmps.getD i yj)->Im az so Cp P wt ii (fun i=>a'.tmps.getD i yj)->a'.tmps.getD 20 yj=rl tz num->a'.tmps.getD 22 yj=rl tz num->a'.tmps.getD 24 yj=gv->a'.tmps.getD 26 yj=ov->a'.tmps.getD 28 yj=pt ⟨#[]⟩->Q .normal a' (w.at d) Shun:=fun a' d e hs hk hk' hk'' hk3 Ia=>by
  rw [e]
  exact hQ _ _ hs hk hk' hk'' hk3 Ia
 have Cl:∀(w:qq) (S:Loc->Prop) (d:Nat),Bf S w->Bf S (w.at d):=fun w S d h=>h
 have E4:∀(w:qq) (S:Loc->Prop),Bf S w->Bf S w:=fun w S h=>h
 refine Nbp ?_
 refine N4 (I:=fun w S=>Bf S w) fun d=>?_
 have hI:Bf Shun (w.at d):=hS
 have Cm:∀(a:Act) (w:qq) (S:Loc->Prop) (d:Nat) (c:s9),Jq ly Post 3 c Q a w S->Jq ly Post 3 c Q a (w.at d) S:=fun a w S d c h=>Vd h d
 refine N68 ?_
 refine Nhj ?_
 refine B5.take (i:=2) (x:=gf vp) Cl E4 (fun a w S d h=>Cm a w S d _ h) rfl Aa Aa Aa Aa (Lc Ac (fun w=>by go_simp)) hI ?_
 walk_nrm
 refine Lbw ?_
 refine B5.take (i:=4) Cl E4 (fun a w S d h=>Cm a w S d _ h) rfl Aa Aa Aa Aa (Kk Ac) hI ?_;walk_nrm
 refine B5.take (i:=5) Cl E4 (fun a w S d h=>Cm a w S d _ h) rfl Aa Aa Aa Aa (Kk Ac) hI ?_;walk_nrm
 refine B5.take (i:=6) Cl E4 (fun a w S d h=>Cm a w S d _ h) rfl Aa Aa Aa Aa (Kk Ac) hI ?_;walk_nrm
 refine B5.take (i:=7) Cl E4 (fun a w S d h=>Cm a w S d _ h) rfl Aa Aa Aa Aa (Kk Ac) hI ?_;walk_nrm
 refine B5.take (i:=8) Cl E4 (fun a w S d h=>Cm a w S d _ h) rfl Aa Aa Aa Aa (Kk Ac) hI ?_;walk_nrm
 refine B5.take (i:=9) Cl E4 (fun a w S d h=>Cm a w S d _ h) rfl Aa Aa Aa Aa (Kk Ac) hI ?_;walk_nrm
 refine B5.take (i:=10) Cl E4 (fun a w S d h=>Cm a w S d _ h) rfl Aa Aa Aa Aa (Kk Ac) hI ?_;walk_nrm
 refine B5.take (i:=11) Cl E4 (fun a w S d h=>Cm a w S d _ h) rfl Aa Aa Aa Aa (Kk Ac) hI ?_;walk_nrm
 refine B5.take (i:=12) Cl E4 (fun a w S d h=>Cm a w S d _ h) rfl Aa Aa Aa Aa (Kk Ac) hI ?_;walk_nrm
 refine B5.take (i:=13) Cl E4 (fun a w S d h=>Cm a w S d _ h) rfl Aa Aa Aa Aa (Kk Ac) hI ?_;walk_nrm
 refine B5.take (i:=14) Cl E4 (fun a w S d h=>Cm a w S d _ h) rfl Aa Aa Aa Aa (Kk Ac) hI ?_;walk_nrm
 refine B5.take (i:=15) Cl E4 (fun a w S d h=>Cm a w S d _ h) rfl Aa Aa Aa Aa (Kk Ac) hI ?_;walk_nrm
 refine B5.take (i:=16) Cl E4 (fun a w S d h=>Cm a w S d _ h) rfl Aa Aa Aa Aa (Kk Ac) hI ?_;walk_nrm
 refine Ado ?_
 exact hQ' _ _ rfl ⟨rfl,rfl,rfl,rfl,rfl,rfl,rfl,rfl⟩ rfl rfl rfl rfl rfl
theorem Ab3(hS:Bf Shun w)(hnf:NF w)(hnb:¬F6 Shun B)(hA:Ji w B (O+i * 6) x)(hx:x.Ok)(hi:i<n)(hn:n<=1000000000000)(hs:Im (cf (lp ⟨B,O,od⟩) n cap) so Cp P wt i f)(h19:f 19=kv)(h20:f 20=rl tz num)(h22:f 22=rl tz (num+1))(h24:f 24=gv)(h26:f 26=ov)(h28:f 28=pt ⟨#[]⟩)(hpe:¬Ce x.a x.b=P)(hQ:∀f' w',Im (cf (lp ⟨B,O,od⟩) n cap) so Cp P wt i f'->f' 20=rl tz num->f' 22=rl tz (num+1)->f' 24=gv->f' 26=ov->f' 28=pt ⟨#[]⟩->Ar w w' (fun _=>False)->NF w'->Bf Shun w'->Q .normal (E3 f') w' Shun) :
  Jq ly Post 3 SF Q (E3 f) w Shun:=by
 have hQ':∀(a':Act) (w':qq),a'=E3 (fun i=>a'.tmps.getD i yj)->Im (cf (lp ⟨B,O,od⟩) n cap) so Cp P wt i (fun i=>a'.tmps.getD i yj)->a'.tmps.getD 20 yj=rl tz num->a'.tmps.getD 22 yj=rl tz (num+1)->a'.tmps.getD 24 yj=gv->a'.tmps.getD 26 yj=ov->a'.tmps.getD 28 yj=pt ⟨#[]⟩->Ar w w' (fun _=>False)->NF w'->Bf Shun w'->Q .normal a' w' Shun:=fun a' w' e hs hk hk' hk'' hk3 Ia h1 h2 h3=>by
  exact I42
 have hpl:¬(Ce x.a x.b).toList=P.toList:=fun e=>hpe (by
  rw [sd,sd] at e
  exact ByteArray.ext (Array.toList_inj.1 e))
 refine Mkk ?_;intro Cl E4 hn1 d wd hI k0 Cm
 refine B5.take (i:=8) (x:=rl tz x.a) Cl E4 (fun a w S d h=>Cm a w S d _ h) rfl Aa Aa Aa Aa (My Ac (fun w S hw v hv=>by obtain⟨c0,c1,c2,c3,c4,c5⟩:=hw.2.2.1.cells hw.2.1 hw.2.2.2 hv;walk_nrm;go_simp)) hI ?_
 refine Jiv ?_
 refine B5.take (i:=13) (x:=rl tz x.b) Cl E4 (fun a w S d h=>Cm a w S d _ h) rfl Aa Aa Aa Aa (My Ac (fun w S hw v hv=>by obtain⟨c0,c1,c2,c3,c4,c5⟩:=hw.2.2.1.cells hw.2.1 hw.2.2.2 hv;walk_nrm;go_simp)) hI ?_
 walk_nrm
 refine Hbz ?_
 refine By1 ?_
 rintro y w2 Sh2 ⟨rfl,rfl,K2,n2,S2⟩
 have a2:=hI.2.2.1.kx K2
 have k2:Ar w w2 (fun _=>False):=k0.trans K2
 have nb2:=hI.2.2.2
 clear hI
 have hI:Sz B (O+i * 6) x w2 Sh2:=⟨S2,n2,a2,nb2⟩
 refine⟨hI,?_⟩
 walk_nrm
 refine B5.take (i:=16) (x:=gf vp) Cl E4 (fun a w S d h=>Cm a w S d _ h) rfl Aa Aa Aa Aa (Lc Ac (fun w=>by walk_nrm;simp [go_sem,hpl])) hI ?_
 walk_nrm
 refine Ado ?_
 exact D2z
theorem Ab2(hS:Bf Shun w)(hnf:NF w)(hnb:¬F6 Shun B)(hA:Ji w B (O+i * 6) x)(hx:x.Ok)(hi:i<n)(hn:n<=1000000000000)(hs:Im (cf (lp ⟨B,O,od⟩) n cap) so Cp P vp i f)(h19:f 19=kv)(h20:f 20=rl tz num)(h22:f 22=rl tz (num+1))(h24:f 24=gv)(h26:f 26=ov)(h28:f 28=pt ⟨#[]⟩)(hpe:Ce x.a x.b=P)(hQ:∀f' w',Im (cf (lp ⟨B,O,od⟩) n cap) so Cp P vp i f'->f' 20=rl tz num->f' 22=rl tz (num+1)->f' 24=gv->f' 26=ov->f' 28=pt ⟨#[]⟩->Ar w w' (fun _=>False)->NF w'->Bf Shun w'->Q .normal (E3 f') w' Shun) :
  Jq ly Post 3 SF Q (E3 f) w Shun:=by
 have hQ':∀(a':Act) (w':qq),a'=E3 (fun i=>a'.tmps.getD i yj)->Im (cf (lp ⟨B,O,od⟩) n cap) so Cp P vp i (fun i=>a'.tmps.getD i yj)->a'.tmps.getD 20 yj=rl tz num->a'.tmps.getD 22 yj=rl tz (num+1)->a'.tmps.getD 24 yj=gv->a'.tmps.getD 26 yj=ov->a'.tmps.getD 28 yj=pt ⟨#[]⟩->Ar w w' (fun _=>False)->NF w'->Bf Shun w'->Q .normal a' w' Shun:=fun a' w' e hs hk hk' hk'' hk3 Ia h1 h2 h3=>by
  exact I42
 refine Mkk ?_;intro Cl E4 hn1 d wd hI k0 Cm
 refine B5.take (i:=8) (x:=rl tz x.a) Cl E4 (fun a w S d h=>Cm a w S d _ h) rfl Aa Aa Aa Aa (My Ac (fun w S hw v hv=>by obtain⟨c0,c1,c2,c3,c4,c5⟩:=hw.2.2.1.cells hw.2.1 hw.2.2.2 hv;walk_nrm;go_simp)) hI ?_
 refine Jiv ?_
 refine B5.take (i:=13) (x:=rl tz x.b) Cl E4 (fun a w S d h=>Cm a w S d _ h) rfl Aa Aa Aa Aa (My Ac (fun w S hw v hv=>by obtain⟨c0,c1,c2,c3,c4,c5⟩:=hw.2.2.1.cells hw.2.1 hw.2.2.2 hv;walk_nrm;go_simp)) hI ?_
 walk_nrm
 refine Hbz ?_
 refine By1 ?_
 rintro y w2 Sh2 ⟨rfl,rfl,K2,n2,S2⟩
 have a2:=hI.2.2.1.kx K2
 have k2:Ar w w2 (fun _=>False):=k0.trans K2
 have nb2:=hI.2.2.2
 clear hI
 have hI:Sz B (O+i * 6) x w2 Sh2:=⟨S2,n2,a2,nb2⟩
 refine⟨hI,?_⟩
 refine U5v ?_
 refine Bhr ?_
 refine Eh ?_
 exact D2z
theorem Ab4(hS:Bf Shun w)(hnf:NF w)(hnb:¬F6 Shun B)(hA:Ji w B (O+i * 6) x)(hx:x.Ok)(hi:i<n)(hn:n<=1000000000000)(hs:Im (cf (lp ⟨B,O,od⟩) n cap) so Cp P s7 i f)(h19:f 19=kv)(h20:f 20=rl tz num)(h22:f 22=rl tz (num+1))(h24:f 24=gv)(h26:f 26=ov)(h28:f 28=pt ⟨#[]⟩)(hpe:Ce x.a x.b=P){kd:Int}(hkv:kv=rl tz kd)(hkd:Gy kd)(hni:Gy (num+1))(hQ:∀f' w',Im (cf (lp ⟨B,O,od⟩) n cap) so Cp P vp i f'->f' 20=rl tz num->f' 22=rl tz (num+1)->f' 24=gv->f' 26=ov->f' 28=pt (Dz (TB (num+1) kd P))->Ar w w' (fun _=>False)->NF w'->Bf Shun w'->Q .normal (E3 f') w' Shun) :
  Jq ly Post 3 SF Q (E3 f) w Shun:=by
 have hQ':∀(a':Act) (w':qq),a'=E3 (fun i=>a'.tmps.getD i yj)->Im (cf (lp ⟨B,O,od⟩) n cap) so Cp P vp i (fun i=>a'.tmps.getD i yj)->a'.tmps.getD 20 yj=rl tz num->a'.tmps.getD 22 yj=rl tz (num+1)->a'.tmps.getD 24 yj=gv->a'.tmps.getD 26 yj=ov->a'.tmps.getD 28 yj=pt (Dz (TB (num+1) kd P))->Ar w w' (fun _=>False)->NF w'->Bf Shun w'->Q .normal a' w' Shun:=fun a' w' e hs hk hk' hk'' hk3 Ia h1 h2 h3=>by
  exact I42
 subst hkv
 refine Mkk ?_;intro Cl E4 hn1 d wd hI k0 Cm
 refine B5.take (i:=8) (x:=rl tz x.a) Cl E4 (fun a w S d h=>Cm a w S d _ h) rfl Aa Aa Aa Aa (My Ac (fun w S hw v hv=>by obtain⟨c0,c1,c2,c3,c4,c5⟩:=hw.2.2.1.cells hw.2.1 hw.2.2.2 hv;walk_nrm;go_simp)) hI ?_
 refine Jiv ?_
 refine B5.take (i:=13) (x:=rl tz x.b) Cl E4 (fun a w S d h=>Cm a w S d _ h) rfl Aa Aa Aa Aa (My Ac (fun w S hw v hv=>by obtain⟨c0,c1,c2,c3,c4,c5⟩:=hw.2.2.1.cells hw.2.1 hw.2.2.2 hv;walk_nrm;go_simp)) hI ?_
 walk_nrm
 refine Hbz ?_
 refine By1 ?_
 rintro y w2 Sh2 ⟨rfl,rfl,K2,n2,S2⟩
 have a2:=hI.2.2.1.kx K2
 have k2:Ar w w2 (fun _=>False):=k0.trans K2
 have nb2:=hI.2.2.2
 clear hI
 have hI:Sz B (O+i * 6) x w2 Sh2:=⟨S2,n2,a2,nb2⟩
 refine⟨hI,?_⟩
 refine U5v ?_
 refine Az0 ?_
 refine Qvz ?_
 iterate 3(refine Al ?_)
 refine Cc rfl Ac rfl (by walk_nrm;exact(O2 (Post:=Post) (g:=17) Ad (pt (Dz (TB (num+1) kd P))) S2 n2 (fun v=>Zf v (num+1) kd P hni hkd (by have:=Ix x.a x.b;rw [hpe] at this;omega)))) ?_
 rintro y w3 Sh3 ⟨rfl,rfl,K3,n3,S3⟩
 walk_nrm
 refine Ecj ?_
 refine Qxj ?_
 refine Ba ?_
 exact hQ' _ _ rfl ⟨rfl,rfl,rfl,rfl,rfl,rfl,rfl,rfl⟩ rfl rfl rfl rfl rfl (k2.trans K3) n3 S3
end
noncomputable def c29:s9:=Code.two X6
theorem MA(n:Int)(b:Nat):∀a,be n (a+b)=be (n / 256 ^ b) a++be n b
 | 0=>by rw [aM];rfl
 | a+1=>by
  have e:n / 256 ^ b / 256 ^ a=n / 256 ^ (a+b):=by
   rw [Int.ediv_ediv_of_nonneg (Int.le_of_lt (Int.pow_pos Ad)),←Int.pow_add,Nat.add_comm b a]
  rw [show a+1+b=(a+b)+1 by omega]
  show UInt8.ofNat ((n / 256 ^ (a+b)) % 256).toNat :: be n (a+b)=(UInt8.ofNat ((n / 256 ^ b / 256 ^ a) % 256).toNat :: be (n / 256 ^ b) a)++be n b
  rw [MA n b a,e]
  rfl
theorem NK(z kd:Int)(p:ByteArray):(Dz (TB z kd p)).data.toList=BC z kd p:=by
 have e:(TB z kd p).data.toList=be (-1) 4++be z 8++be 0 4++be kd 4++be p.size 4++p.data.toList:=by
  unfold TB
  have h8:be z 8=be (z / 4294967296) 4++be z 4:=MA z 4 4
  simp only [dY,eD,N6,Hu,bM,h8]
  rfl
 rw [Hu,e]
 rfl
section
variable {Post:Da} {Shun:Loc->Prop} {w:qq} {Cp:Nat} {nn bb:Int} {Q:Exit->Act->qq->(Loc->Prop)->Prop} {az so kv gv:tj} {P ws:ByteArray} {wt:Bool} {ii:Int} {f:Nat->tj} {oa:Option Addr} {ol oc:Nat}
theorem ZH(hS:Bf Shun w)(hs:Im az so Cp P wt ii f)(h20:f 20=rl tz bb)(h22:f 22=rl tz nn)(h24:f 24=gv)(h26:f 26=cf oa ol oc)(h28:f 28=pt ws)(hg:∀z,Cq (F6 Shun) w z->(convert 35 9 gv).run ly z=.ok (pt ws) z)(hl:20<=ol)(h1:bb<=nn)(h2:nn<=bb+1)(h3:0<=bb)(h4:bb+1<9223372036854775807)(hQ:∀f',Im az so Cp P wt ii f'->Q .normal (E3 f') w Shun) :
  Jq ly Post 3 c29 Q (E3 f) w Shun:=by
 have hQ':∀(a':Act),a'=E3 (fun i=>a'.tmps.getD i yj)->Im az so Cp P wt ii (fun i=>a'.tmps.getD i yj)->Q .normal a' w Shun:=fun a' e hs=>by
  rw [e]
  exact hQ _ hs
 have hadd:IntKind.i64.wrap (bb+1)=bb+1:=by
  rw [yq]
  omega
 simp only [c29,X6,Fy,Gp,b3,Code.yes,Code.core,Code.one,Code.two,rf,aN]
 simp only [E3,hs.h0,hs.h3,hs.h11,hs.h12,hs.h13,hs.h14,hs.h15,hs.h16,h20,h22,h24,h26,h28]
 refine Qvz ?_
 refine Al ?_
 refine F0 (x:=pt ws) rfl Ac Aa hS (fun v hv=>by have hc:=hg v hv;walk_nrm;go_simp) ?_
 walk_nrm
 refine Al ?_
 refine Dr (x:=gf vp) rfl Ac (fun w=>by walk_nrm;simp [go_sem]) (fun w=>by walk_nrm;first|rfl|(go_simp;done)) ?_
 walk_nrm
 iterate 3(refine Al ?_)
 refine Dr (x:=gf vp) rfl Ac (fun w=>by walk_nrm;have hx:¬((ol:Int)<20):=Ab;simp [go_sem,hx]) (fun w=>by walk_nrm;first|rfl|(go_simp;done)) ?_
 walk_nrm
 iterate 4(refine Al ?_)
 refine Dr (x:=gf vp) rfl Ac (fun w=>by walk_nrm;have hx:¬(nn<bb):=Ab;simp [go_sem,hx]) (fun w=>by walk_nrm;first|rfl|(go_simp;done)) ?_
 walk_nrm
 iterate 4(refine Al ?_)
 refine Dr (x:=rl tz (bb+1)) rfl Ac (fun w=>by walk_nrm;simp [go_sem,hadd]) (fun w=>by walk_nrm;first|rfl|(go_simp;done)) ?_
 walk_nrm
 refine Dr (x:=gf vp) rfl Ac (fun w=>by walk_nrm;have hx:¬(bb+1<nn):=Ab;simp [go_sem,hx]) (fun w=>by walk_nrm;first|rfl|(go_simp;done)) ?_
 walk_nrm
 refine Ecj ?_
 refine Bhr ?_
 refine Eh ?_
 exact hQ' _ rfl ⟨rfl,rfl,rfl,rfl,rfl,rfl,rfl,rfl⟩
end
noncomputable def s13:s9:=Code.one Fy
section
variable {Post:Da} {valid:ByteArray->Bool} {Tabs:qq->Prop} {gN:Nat} {Shun:Loc->Prop} {w:qq} {Cp svb D K tb mb wm sm s1 s2:Nat} {lg:Option (Nat×Nat)} {last num:Int} {ns:List (ByteArray×Nd)} {ks:List tj} {p1 p2:tj} {Q:Exit->Act->qq->(Loc->Prop)->Prop} {az:tj} {P:ByteArray} {wt:Bool} {i:Nat} {f:Nat->tj} {so:Int}
theorem Adg(U:Jk valid Tabs)(hs:Im az (rl tz so) Cp P wt i f)(hso:Gy so)(h:W2 Tabs gN Shun w Cp svb D K tb mb wm sm s1 s2 lg last num ns ks p1 (cf od 0 0) p2 (cf od 0 0))(hi:i<=1000000000000)(hpa:Hq P=s7)(hps:P.size<=4)(hpv:valid P=s7)(hks:ks=if wt then [Dw 2 P 0] else [])(hQ:∀f' w' Sh p2' wt',Im az (rl tz so) Cp P wt' i f'->Dh gN w w'->W2 Tabs gN Sh w' Cp svb D K tb mb wm sm s1 s2 lg last num ns (if wt' then [Dw 2 P 0] else []) p1 (cf od 0 0) p2' (cf od 0 0)->Q .normal (E3 f') w' Sh) :
  Jq ly Post 3 s13 Q (E3 f) w Shun:=by
 have hY:∀(a':Act) (w':qq) (Sh:Loc->Prop),a'=E3 (fun i=>a'.tmps.getD i yj)->Im az (rl tz so) Cp P wt i (fun i=>a'.tmps.getD i yj)->w'=w->Sh=Shun->Jq ly Post 3 ex3 Q a' w' Sh:=by
  rintro a' w' Sh e hs rfl rfl
  rw [e]
  exact Adk U hs h Ab Ab hpa hps hpv (by rw [hks];cases wt;exact .inl rfl;exact .inr rfl) fun f' w' Sh p2' h1 h2 h3=>hQ f' w' Sh p2' s7 h1 (fun j ob hj hk=>h2 j ob hj hk) h3
 have hN:∀(a':Act) (w':qq) (Sh:Loc->Prop),a'=E3 (fun i=>a'.tmps.getD i yj)->Im az (rl tz so) Cp P wt i (fun i=>a'.tmps.getD i yj)->w'=w->Sh=Shun->Q .normal a' w' Sh:=by
  rintro a' w' Sh e hs rfl rfl
  rw [e]
  subst hks
  exact hQ _ _ _ _ wt hs (fun j ob hj hk=>hj) h
 have hadd:IntKind.i64.wrap ((i:Int)+2)=(i:Int)+2:=by
  rw [yq]
  omega
 have hE:s13=.seq (Code.one s13) (.cond (.tmp 62) ex3 .skip):=rfl
 rw [hE]
 refine A9 ?_
 simp only [s13,Fy,Gp,b3,Code.yes,Code.core,Code.one,Code.two,rf,aN]
 simp only [E3,hs.h0,hs.h3,hs.h11,hs.h12,hs.h13,hs.h14,hs.h15,hs.h16]
 by_cases h0:i=0
 ·refine Qxj ?_
  refine Dr (x:=gf s7) rfl Ac (fun w=>by subst h0;walk_nrm;rfl) (fun w=>by walk_nrm;rfl) ?_
  walk_nrm
  refine Al ?_
  refine Dd rfl Ac ?_
  walk_nrm
  refine Dd rfl Ac ?_
  walk_nrm
  refine Dd rfl Ac ?_
  walk_nrm
  refine Dd rfl Ac ?_
  walk_nrm
  refine Dd rfl Ac ?_
  exact Kzf
 ·refine Qxj ?_
  refine Dr (x:=gf vp) rfl Ac (fun w=>by walk_nrm;simp [go_sem,h0]) (fun w=>by walk_nrm;first|rfl|(go_simp;done)) ?_
  walk_nrm
  iterate 3(refine Al ?_)
  refine Dr (x:=rl tz ((i:Int)+2)) rfl Ac (fun w=>by walk_nrm;simp [go_sem,hadd]) (fun w=>by walk_nrm;first|rfl|(go_simp;done)) ?_
  walk_nrm
  refine Eo (x:=(rl tz (Io so ((i:Int)+2)))) rfl Ac rfl Ad h.B.S (by walk_nrm;exact(fun z hz=>Jd z so _ hso Ab Ab)) ?_;walk_nrm
  by_cases hp:0<Io so ((i:Int)+2)
  ·refine Dr (x:=gf s7) rfl Ac (fun w=>by walk_nrm;simp [go_sem,hp]) (fun w=>by walk_nrm;first|rfl|(go_simp;done)) ?_
   exact Kzf
  ·refine Dr (x:=gf vp) rfl Ac (fun w=>by walk_nrm;simp [go_sem,hp]) (fun w=>by walk_nrm;first|rfl|(go_simp;done)) ?_
   walk_nrm
   refine Ecj ?_
   refine Cy (t:=vp) Ac ?_
   simp only [bQ,aV]
   refine Eh ?_
   exact hN _ _ _ rfl ⟨rfl,rfl,rfl,rfl,rfl,rfl,rfl,rfl⟩ rfl rfl
end
theorem X7:X6=.seq SF c29:=rfl
theorem Yy:Fy=.seq s13 (.seq r19 (.seq r20 (.seq r21 (.seq r22 (.seq r23 (.seq r24 (.seq r25 X6))))))):=rfl
theorem Ss{w w':qq}{X:Nat->Prop}{base n:Nat}{v:tj}{xs:List tj}(h:w.ownsRow base 5 1 v n xs)(K:Ar w w' X)(hX:∀j c,w.heap[j]? = lp (.cells c 5)->¬X j):w'.ownsRow 0 5 1 v n xs:=Ff (Df h (cC _)) fun g hg=>by
 obtain⟨c,h1⟩:=Nq h hg
 rw [h1]
 exact K.get h1 (hX _ _ h1)
theorem FR{w:qq}{s:Nat}{c0:Array tj}(h:w.heap[s]? = lp (.cells c0 75)):∀j c,w.heap[j]? = lp (.cells c 5)->¬j=s:=fun j c hj e=>by
 subst e
 rw [h] at hj
 cases hj
theorem We{w:qq}{base:Nat}{v:tj}{l:List UInt8}(h:w.ownsRow base 5 1 v l.length (A0 l)):∃oa oc,v=cf oa l.length oc:=by
 rcases h.2 with⟨e,h0⟩|⟨g,cap,cur,e,_⟩
 ·exact⟨od,0,by rw [h0];exact e⟩
 ·exact⟨_,_,e⟩
section
variable {Post:Da} {valid:ByteArray->Bool} {Tabs:qq->Prop} {gN:Nat} {Shun:Loc->Prop} {w:qq} {Cp svb D K tb mb wm sm s1 s2:Nat} {lg:Option (Nat×Nat)} {last num:Int} {ns:List (ByteArray×Nd)} {p1 p2:tj} {Q:Exit->Act->qq->(Loc->Prop)->Prop} {P:ByteArray} {wt:Bool} {i B O n cap:Nat} {f:Nat->tj} {x:O8} {so:Int}
theorem SD(U:Jk valid Tabs)(hpath:∀a b,Hq (Ce a b)=s7/\Dj (Ce a b)=s7/\valid (Ce a b)=s7)(hev:valid ⟨#[]⟩=s7)(hP:∃a b,P=Ce a b)(hs:Im (cf (lp ⟨B,O,od⟩) n cap) (rl tz so) Cp P wt i f)(hso:Gy so)(hi:i<n)(hn:n<=1000000000000)(hA:Ji w B (O+i * 6) x)(hBg:B<gN)(hx:x.Ok)(h:W2 Tabs gN Shun w Cp svb D K tb mb wm sm s1 s2 lg last num ns (if wt then [Dw 2 P 0] else []) p1 (cf od 0 0) p2 (cf od 0 0))(Di:M7 lg<=8000000000000000000)(hn0:0<=num)(hnum:num+1<9223372036854775807)(hQ:∀f' w' Sh lg' num' ns' p1' p2' wt',Im (cf (lp ⟨B,O,od⟩) n cap) (rl tz so) Cp P wt' i f'->Dh gN w w'->W2 Tabs gN Sh w' Cp svb D K tb mb wm sm s1 s2 lg' last num' ns' (if wt' then [Dw 2 P 0] else []) p1' (cf od 0 0) p2' (cf od 0 0)->M7 lg'<=M7 lg+1000->num<=num'->num'<=num+1->Q .normal (E3 f') w' Sh) :
  Jq ly Post 3 Fy Q (E3 f) w Shun:=by
 obtain⟨Pa,Pb,hPe⟩:=hP
 have hPp:Hq P=s7:=by rw [hPe];exact(hpath _ _).1
 have hPz:P.size<=4:=by rw [hPe];exact Ix _ _
 have hPv:valid P=s7:=by rw [hPe];exact(hpath _ _).2.2
 obtain⟨kd,hkd,hkI⟩:∃kd:Nat,(kd=1∨kd=2∨kd=3)/\(kd:Int)=1+Io x.k 3:=by
  obtain⟨q0,q1⟩:=Nr x.k (n:=3) Ad
  exact⟨(1+Io x.k 3).toNat,Ab,Ab⟩
 rw [Yy]
 refine A9 (Adg U hs hso h Ab hPp hPz hPv rfl fun f1 w1 Sh1 p2' wt1 hs1 k1 h1=>?_)
 have A1:=hA.keep k1 hBg
 refine A9 (Adh hs1 hi hn h1.B.S h1.B.nf (h1.B.nb hBg) A1 hx fun f2 hs2 e2=>?_)
 refine A9 (Adi hs2 e2 h1 fun f3 w3 hs3 e3 e3b K3 h3=>?_)
 rw [←hkI] at e3
 have A3:=A1.kx K3
 refine A9 (Adj U hs3 e3 e3b hkd hi hn A3 hBg hx h3 (hpath _ _).1 (hpath _ _).2.1 (hpath _ _).2.2 hev (by cases wt1;exact .inl rfl;exact .inr ⟨P,rfl⟩) Di hnum (fun a w S d hq=>Vd hq d) fun f4 w4 Sh4 hs4 e4 e4b k4 hc nf4 S4=>?_)
 have k04:Dh gN w w4:=fun j ob hj hk=>k4 j ob (K3.get (k1 j ob hj hk) id) hk
 have A4:=A3.keep k4 hBg
 obtain⟨p1',ov,l,b,hl,o4,Gr⟩:=hc
 obtain⟨oa,oc,rfl⟩:=We o4
 rcases Gr with h4|⟨lg',ns',ks',ov2,hlg,h4,⟨Cu,hks,hov⟩|⟨hke,hks,o42⟩⟩
 ·refine A9 (ZD hs4 e4 e4b h4 fun f5 w5 hs5 e5 e5b e5c K5 h5=>?_)
  refine A9 (ZE hs5 e5 e5b e5c h5 fun f6 w6 hs6 e6 e6b e6c e6d K6 h6=>?_)
  refine A9 (ZF hs6 e6 e6b e6c e6d h6 fun f7 w7 hs7 e7 e7b e7c e7d e7e K7 h7=>?_)
  refine A9 (ZG hs7 e7 e7b e7c e7d e7e fun f8 hs8 e8 e8b e8c e8d e8e e8f=>?_)
  rw [X7]
  refine A9 (Ab1 h7.B.S hs8 e8 e8b e8c e8d e8e e8f fun f9 d hs9 e9b e9c e9d e9e e9f=>?_)
  have h9:=h7.at d
  refine ZH h9.B.S hs9 e9b e9c e9d e9e e9f (fun z hz=>J5 (base:=0) (b:=[]) ⟨rfl,.inl ⟨rfl,rfl⟩⟩) hl Ab Ab hn0 hnum fun f' hs'=>?_
  have k07:Dh gN w w7:=fun j ob hj hk=>by
   have g5:=K5.get (k04 j ob hj hk) id
   exact Dze
  exact hQ f' _ _ lg num ns _ _ wt1 hs' k07 h9 Ab Ab Ab
 ·subst hks hov
  refine A9 (ZD hs4 e4 e4b h4 fun f5 w5 hs5 e5 e5b e5c K5 h5=>?_)
  refine A9 (ZE hs5 e5 e5b e5c h5 fun f6 w6 hs6 e6 e6b e6c e6d K6 h6=>?_)
  refine A9 (ZF hs6 e6 e6b e6c e6d h6 fun f7 w7 hs7 e7 e7b e7c e7d e7e K7 h7=>?_)
  refine A9 (ZG hs7 e7 e7b e7c e7d e7e fun f8 hs8 e8 e8b e8c e8d e8e e8f=>?_)
  rw [X7]
  refine Iy8 ?_;intro k47 A7
  have fin:∀f9 w9,Im (cf (lp ⟨B,O,od⟩) n cap) (rl tz so) Cp P wt1 i f9->f9 20=rl tz num->f9 22=rl tz (num+1)->f9 24=cf od 0 0->f9 26=cf oa l.length oc->f9 28=pt ⟨#[]⟩->Ar w7 w9 (fun _=>False)->NF w9->Bf Sh4 w9->Jq ly Post 3 c29 Q (E3 f9) w9 Sh4:=fun f9 w9 hs9 e9b e9c e9d e9e e9f K9 n9 S9=>by
   have h9:=h7.grow K9 n9 S9
   refine ZH S9 hs9 e9b e9c e9d e9e e9f (fun z hz=>J5 (base:=0) (b:=[]) ⟨rfl,.inl ⟨rfl,rfl⟩⟩) hl Ab Ab hn0 hnum fun f' hs'=>?_
   exact hQ f' _ _ lg' (num+1) ns' _ _ wt1 hs' (fun j ob hj hk=>K9.get (k47 j ob (k04 j ob hj hk) hk) id) h9 hlg Ab Ab
  by_cases hpe:Ce x.a x.b=P
  ·cases wt1 with
   | true=>exact absurd (by rw [hpe];rfl) Cu
   | false=>exact A9 (Ab2 h7.B.S h7.B.nf (h7.B.nb hBg) A7 hx hi hn hs8 e8 e8b e8c e8d e8e e8f hpe fin)
  ·exact A9 (Ab3 h7.B.S h7.B.nf (h7.B.nb hBg) A7 hx hi hn hs8 e8 e8b e8c e8d e8e e8f hpe fin)
 ·subst hks
  obtain⟨qa,qc,rfl⟩:=We o42
  obtain⟨rfl,hpe⟩:wt1=s7/\Ce x.a x.b=P:=by
   cases wt1 with
   | false=>cases hke
   | true=>
    simp only [bC,bV,and_true,Dw] at hke
    refine⟨rfl,?_⟩
    simp at hke
    exact hke.symm
  refine A9 (ZD hs4 e4 e4b h4 fun f5 w5 hs5 e5 e5b e5c K5 h5=>?_)
  refine A9 (ZE hs5 e5 e5b e5c h5 fun f6 w6 hs6 e6 e6b e6c e6d K6 h6=>?_)
  refine A9 (ZF hs6 e6 e6b e6c e6d h6 fun f7 w7 hs7 e7 e7b e7c e7d e7e K7 h7=>?_)
  refine A9 (ZG hs7 e7 e7b e7c e7d e7e fun f8 hs8 e8 e8b e8c e8d e8e e8f=>?_)
  rw [X7]
  refine Iy8 ?_;intro k47 A7
  have o7:=Ss (Ss (Ss o42 K5 fun _ _ _=>id) K6 (FR h5.b2)) K7 (FR h6.b1)
  refine A9 (Ab4 h7.B.S h7.B.nf (h7.B.nb hBg) A7 hx hi hn hs8 e8 e8b e8c e8d e8e e8f hpe (kd:=kd) rfl ⟨Ab,Ab⟩ ⟨Ab,Ab⟩ fun f9 w9 hs9 e9b e9c e9d e9e e9f K9 n9 S9=>?_)
  have h9:=h7.grow K9 n9 S9
  have o9:=Ss o7 K9 fun _ _ _=>id
  have hstr:(⟨(BC (num+1) kd (Ce x.a x.b)).toArray⟩:ByteArray)=Dz (TB (num+1) kd P):=by
   rw [hpe,←NK]
  refine ZH S9 hs9 e9b e9c e9d e9e e9f (fun z hz=>by rw [←hstr];exact J5 (base:=0) (Z2 o9 S9 n9 hz)) hl Ab Ab hn0 hnum fun f' hs'=>?_
  exact hQ f' _ _ lg' (num+1) ns' _ _ vp hs' (fun j ob hj hk=>K9.get (k47 j ob (k04 j ob hj hk) hk) id) h9 hlg Ab Ab
end
noncomputable def t11:s9:=Code.one Gp
noncomputable def u12:s9:=Code.two (Code.two Gp)
theorem OH:Gp=.seq t11 (.seq (.block 1 Fy) u12):=rfl
def M8(gN:Nat)(oA:Option Addr)(n:Nat)(w:qq):Prop:=∀i,i<n->∃B O x,oA=lp ⟨B,O,od⟩/\B<gN/\Ji w B (O+i * 6) x/\x.Ok
theorem M8.keep{gN:Nat}{oA:Option Addr}{n:Nat}{w w':qq}(h:M8 gN oA n w)(k:Dh gN w w'):M8 gN oA n w':=fun i hi=>let⟨B,O,x,h1,h0,h2,h3⟩:=h i hi;⟨B,O,x,h1,h0,h2.keep k h0,h3⟩
theorem Dh.refl{gN:Nat}(w:qq):Dh gN w w:=fun _ _ h _=>h
theorem Dh.trans{gN:Nat}{w w1 w2:qq}(h:Dh gN w w1)(k:Dh gN w1 w2):Dh gN w w2:=fun j ob hj hk=>k j ob (h j ob hj hk) hk
section
variable {Post:Da} {valid:ByteArray->Bool} {Tabs:qq->Prop} {gN:Nat} {Shun:Loc->Prop} {w:qq} {Cp svb D K tb mb wm sm s1 s2:Nat} {last:Int} {p1 p2:tj} {Q:Exit->Act->qq->(Loc->Prop)->Prop} {P:ByteArray} {wt:Bool} {i n cap:Nat} {oA:Option Addr} {f:Nat->tj} {so:Int} {sv:tj}
theorem Ade(hs:Im (cf oA n cap) sv Cp P wt i f)(hY:i<n->∀f',Im (cf oA n cap) sv Cp P wt i f'->Q .normal (E3 f') w Shun)(hN:¬i<n->∀f',Im (cf oA n cap) sv Cp P wt i f'->Q (.exit 0) (E3 f') w Shun) :
  Jq ly Post 3 t11 Q (E3 f) w Shun:=by
 have hY':i<n->∀(a':Act),a'=E3 (fun i=>a'.tmps.getD i yj)->Im (cf oA n cap) sv Cp P wt i (fun i=>a'.tmps.getD i yj)->Q .normal a' w Shun:=fun h a' e hs=>by
  rw [e]
  exact hY h _ hs
 have hN':¬i<n->∀(a':Act),a'=E3 (fun i=>a'.tmps.getD i yj)->Im (cf oA n cap) sv Cp P wt i (fun i=>a'.tmps.getD i yj)->Q (.exit 0) a' w Shun:=fun h a' e hs=>by
  rw [e]
  exact hN h _ hs
 simp only [t11,Gp,b3,Code.yes,Code.core,Code.one,Code.two,rf,aN]
 simp only [E3,hs.h0,hs.h3,hs.h11,hs.h12,hs.h13,hs.h14,hs.h15,hs.h16]
 refine Qvz ?_
 iterate 3(refine Al ?_)
 by_cases hi:i<n
 ·refine Dr (x:=gf s7) rfl Ac (fun w=>by walk_nrm;have hx:(i:Int)<n:=Ab;simp [go_sem,hi]) (fun w=>by walk_nrm;first|rfl|(go_simp;done)) ?_
  walk_nrm
  refine Dc8 ?_
  refine Az0 ?_
  refine Eh ?_
  exact hY' hi _ rfl ⟨rfl,rfl,rfl,rfl,rfl,rfl,rfl,rfl⟩
 ·refine Dr (x:=gf vp) rfl Ac (fun w=>by walk_nrm;have hx:¬(i:Int)<n:=Ab;simp [go_sem];omega) (fun w=>by walk_nrm;first|rfl|(go_simp;done)) ?_
  walk_nrm
  refine Dc8 ?_
  refine Bhr ?_
  refine QU ?_
  exact hN' hi _ rfl ⟨rfl,rfl,rfl,rfl,rfl,rfl,rfl,rfl⟩
theorem Adf{az:tj}(hs:Im az sv Cp P wt i f)(hi:i<=1000000000000)(hQ:∀f',Im az sv Cp P wt ((i+1:Nat):Int) f'->Q .normal (E3 f') w Shun) :
  Jq ly Post 3 u12 Q (E3 f) w Shun:=by
 have hQ':∀(a':Act),a'=E3 (fun i=>a'.tmps.getD i yj)->Im az sv Cp P wt ((i+1:Nat):Int) (fun i=>a'.tmps.getD i yj)->Q .normal a' w Shun:=fun a' e hs=>by
  rw [e]
  exact hQ _ hs
 have hadd:IntKind.i64.wrap ((i:Int)+1)=(i:Int)+1:=by
  rw [yq]
  omega
 simp only [u12,Gp,b3,Code.yes,Code.core,Code.one,Code.two,rf,aN]
 simp only [E3,hs.h0,hs.h3,hs.h11,hs.h12,hs.h13,hs.h14,hs.h15,hs.h16]
 refine Qxj ?_
 refine Dr (x:=rl tz ((i:Int)+1)) rfl Ac (fun w=>by walk_nrm;simp [go_sem,hadd]) (fun w=>by walk_nrm;first|rfl|(go_simp;done)) ?_
 walk_nrm
 refine Al ?_
 refine Ba ?_
 exact hQ' _ rfl ⟨rfl,rfl,rfl,rfl,rfl,rfl,rfl,rfl⟩
def Acv(Tabs:qq->Prop)(gN Cp svb D K tb mb wm sm s1 s2:Nat)(last:Int)(P:ByteArray)(oA:Option Addr)(n cap:Nat)(so:Int)(w0:qq)(m:Nat)(a:Act)(w:qq)(Sh:Loc->Prop):Prop:=
 ∃i f wt lg num ns p1 p2,m=n - i/\i<=n/\a=E3 f/\Im (cf oA n cap) (rl tz so) Cp P wt (i:Nat) f/\W2 Tabs gN Sh w Cp svb D K tb mb wm sm s1 s2 lg last num ns (if wt then [Dw 2 P 0] else []) p1 (cf od 0 0) p2 (cf od 0 0)/\M8 gN oA n w/\M7 lg<=i * 1000/\0<=num/\num<=i/\Dh gN w0 w
theorem TR(U:Jk valid Tabs)(hpath:∀a b,Hq (Ce a b)=s7/\Dj (Ce a b)=s7/\valid (Ce a b)=s7)(hev:valid ⟨#[]⟩=s7)(hP:∃a b,P=Ce a b)(hso:Gy so)(hn:n<=1000000000)(hs:Im (cf oA n cap) (rl tz so) Cp P vp (0:Nat) f)(h:W2 Tabs gN Shun w Cp svb D K tb mb wm sm s1 s2 od last 0 [(⟨#[47]⟩,Ir)] [] p1 (cf od 0 0) p2 (cf od 0 0))(hA:M8 gN oA n w)(hQ:∀f' w' Sh,Dh gN w w'->Base Tabs gN Sh w'->Q .normal (E3 f') w' Sh) :
  Jq ly Post 3 (.block 0 (.loop Gp)) Q (E3 f) w Shun:=by
 refine Ws (QW (I:=Acv Tabs gN Cp svb D K tb mb wm sm s1 s2 last P oA n cap so w) ?_ (n:=n) ⟨0,f,vp,od,0,_,p1,p2,Ab,Ab,rfl,hs,h,hA,Ad,Ab,Ab,Dh.refl _⟩)
 rintro m a w1 S1 ⟨i,f1,wt1,lg,num,ns,q1,q2,rfl,hi,rfl,hs1,h1,hA1,Di,hn0,hn1,k1⟩
 rw [OH]
 refine A9 (Ade hs1 (fun Cg f2 hs2=>?_) (fun hge f2 hs2=>?_))
 ·obtain⟨B,O,x,rfl,hBg,hAx,hx⟩:=hA1 i Cg
  refine A9 (Ws ?_)
  refine SD U hpath hev hP hs2 hso Cg Ab hAx hBg hx h1 Ab hn0 Ab fun f3 w3 Sh3 lg' num' ns' p1' p2' wt' hs3 k3 h3 hsz3 g1 g2=>?_
  refine Adf hs3 Ab fun f4 hs4=>?_
  exact⟨n - (i+1),Ab,i+1,f4,wt',lg',num',ns',p1',p2',rfl,Ab,rfl,hs4,h3,hA1.keep k3,Ab,Ab,Ab,k1.trans k3⟩
 ·exact hQ _ _ _ k1 h1.B
end
end Go.Proofs.YtjoblhlkfmeckaaGreatDoor
