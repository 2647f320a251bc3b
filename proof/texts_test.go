package proof_test

import (
	"crypto/sha256"
	"encoding/hex"
	"math/big"
	"strings"
	"testing"
)

// What follows was worked out apart from the program, by the document's words: by
// numbers of any length, from X on, point by point.

// The generator's coordinates, by 16.
const (
	gen1X = "8848defe740a67c8fc6225bf87ff5485951e2caa9d41bb188282c8bd37cb5cd5481512ffcd394eeab9b16eb21be9ef"
	gen1Y = "1914a69c5102eff1f674f5d30afeec4bd7fb348ca3e52d96d182ad44fb82305c2fe3d3634a9591afd82de55559c8ea6"
)

// Two great scalars.
const (
	great1 = "123456789abcdef0fedcba98765432100112233445566778899aabbccddeeff"
	great2 = "fedcba9876543210123456789abcdefffeeddccbbaa99887766554433221100"
)

// The bytes of the proof whose parts are the powers of the first great scalar, from the first
// one on: the 13 points, then the 19 scalars.
const textOfPowers = `
	0074f05481cdbd5dbc024b827a036a19037636726d297cb9a5896bd64703e040d72cc1ef5acb228ee54d906301950948
	419c6f42a90a8d2cc05c9ca0b4a601e4211bc9a7df694cfbe734e2a98a6c8bbefad21eda5001507a64b0ace899b14495
	406135d9dc100b96b2734456c66170d7037fe20f9bf662a8cca133ec1e9575f2e13292f610cb3557b6a11630ba4bf27d
	000c371e58276520345881864bcaefdd9a006b56f56fa48b8c6ad2ecfa255304130373adaaca66be626f31950f840c65
	00f46324c67965e22f858e7db1177e424e1ebbedefa09ecba3692f79cedf414dc54bb983ba5748d56039cd0a97512520
	4030d6df743f2836746c8d21ecba8c2b46aea2d92b8465219e6a9e39cb8708350c7cbf6096e789326f3eb3537576c4f8
	4058d5d36771e1855e8e0671cff05011f66c667e1074e8aeef95dad5c7a4bb2d702d94b1b45853198dcc402afa4b4de9
	005754c056b2b6f3b0268545de1e3f0e1b4cd6deaa2df04da957ba5de3a58017267c9016199c91ab41bdfad999653f26
	40acb7ecabde750c9822e0fa5237d51e9e646da76cea749a40ae5eb28dc2f2af939098cfcb030e5360e6581f43e5af81
	0112093d2dc5c681ec8ddf918b0bb06716a62de2e5daf1825819730505f9b199d550962078a55b9eae063d7da629ebe8
	40134364e8327551455c6da2f9caf32166f82dc983b1ed0d8cc2bcf7dcea16f59952c090708a5e967771444f27e7f012
	097cd7a44969304f73c69bf4103fc17700bc237fcb922bc0b277fbb5ee6d6819
	08122536223ad190ccc0c7ca0c81e7520e91fb3a74c126b38a0cd5a3cf7bf621
	09af63d05cd75ce4daa83b87d556dacf554e2ed3c41d8196f8e861e9166fd15e
	0f080cc2575e94aeb127e77a5efc401c3eae7b150b90f312439879014b053666
	038d80a9dc0ea8f1b5dcac7fa7b062f5ce022a3d8652cd5efc4ae385e5ee1266
	05ae0ba6945803174b2995e46f54ee01fe4569aa53c933030e48536ddf910850
	12442b0d7b6245ac9f7398c21ad79bab5a750c6024920c8edcb5facf91e7b690
	0b60f845f1a73df06acb6f968b3a6425fbbb8da36d1e07c9bead9394921d97d5
	0e3d0a2a1874d8689685a47d385e6c88cee33482179d91a46019520175301704
	1079ac3a57180db6e32cca50e0dd02b718d37f20a50db0c32847146f4c688614
	052ff544ef351a37a32aba5f2e3a8322cf13aa00d9fd014b6bbc0fc2429e4cdd
	0795889a4f3087cbb16adbf967367a508bde48cbac48cb4ded681e9d3e8fbb56
	016473b3eab7091cbf0f12625e010b42d28665b7937a220384b1ed6c0d80845d
	05626d1bf96fb5535bc17f588f07f8780650e251dcc8caf75941c5e47638273b
	07c6d999b2f2f48be2c4e95f1d2f7941dc5f763b6de15350c0b12bf0831a5b14
	11b32749d98e7fd177eef99d4965723d674150a7b2adf4c2cf8d2e874bfaa85f
	09d8aaedba7c5dd92b19ba04978cb1e1d7bd8656bb1f6139d09da0b9f75e8da4
	0d8b2e3cc9fa3058c89455e87fddd7ad761454e3c655951f1a1820c323292d97
	0828f63b4b08c65ee30f155c913017c7e0b396847044f9ead8f58c1492e26d63
	0038eed3ddc06a77264afd957ce41c039879726f0db7cd94f40f622bb601d94ab442290c4c50be814e8a801224bcfdb3
	0073b42462f7a2bc8e4a926674026f72e2fa767830a8699c7b7db1200df83d51553549e2971286af123af4fa99804ba1
`

// powers is a proof of such powers.
func powers(k *big.Int) (x tale) {
	for i := range x.c {
		x.c[i] = new(big.Int).Exp(mod(k), whole(int64(i+1)), r)
	}
	for i := range x.s {
		x.s[i] = new(big.Int).Exp(mod(k), whole(int64(i+14)), r)
	}
	return x
}

// apart is a proof that was worked out, and of its bytes the sum by SHA-256.
type apart struct {
	what string
	tale
	sum string
}

func allApart() []apart {
	one1, one2 := number(great1), number(great2)
	return []apart{
		{"1, 2, ..", one(1), "e665fdcb0af6dcab78fc6c660f8d412bf1f35a12fe8ffd0767f91a5ed2edf454"},
		{"-40, -39, ..", one(-40), "1efda988d22610008900a48e3587151bbef81b0fbf1bd4a683d38284e0a8e2d9"},
		{"2^40, 2^40 + 1, ..", one(1 << 40), "ed80404734542d6a541ba512120c7eff35932bc925f40fa714efe6b6b375ecc7"},
		{"all 0", all(whole(0)), "ea8f95608eaa368333655565f7d79089a9659078d5d91945bc833fdb5813d462"},
		{"all 1", all(whole(1)), "3d51c0687cfd7ed9b5a69241adebe26f19018667f04ea2a7e4c8d2db0d6a9c13"},
		{"all -1", all(whole(-1)), "5e8afa5e9db9b64e2a73f74742bfbf7e487a39c2ab0ab313334684498d29601b"},
		{"powers of 2", powers(whole(2)), "f37b3c0c6f4f5f97b7885197ad76a8ae92eef1657fafaeffef1e21184b612ea7"},
		{"powers of -2", powers(whole(-2)), "83af330e5ef06878642a2802df4de2082b67cd46780aa385ad194b7eb5cf7590"},
		{"powers of -1", powers(whole(-1)), "1ae715005a0fc189f07b93b0c9b5ff200bac90fedebc64e21dd0859a379ba907"},
		{"powers of the one", powers(one1), "d5b8d870982a23d4f83a023a53a946bdc31cc840bc003f5d4f870193da1728f9"},
		{"powers of the other one", powers(one2), "e3a4872211a92ca35eb359342a1ae9ecddda744ec9df8fe439773176b7a65a48"},
		{"powers of the one's negative", powers(new(big.Int).Neg(one1)), "f811f88c4bc6ab0c346076091b6942cc0b24dc03816078947940acace95f7edd"},
	}
}

// wantSum fails if bytes' sum by SHA-256 is not this.
func wantSum(t *testing.T, what string, b []byte, wanted string) {
	t.Helper()
	sum := sha256.Sum256(b)
	if got := hex.EncodeToString(sum[:]); got != wanted || len(b) != 1232 {
		t.Errorf("%s: %d bytes: %s, not %s", what, len(b), got, wanted)
	}
}

// digits are the bytes of a text of digits.
func digits(text string) []byte {
	b, e := hex.DecodeString(strings.Join(strings.Fields(text), ""))
	if e != nil {
		panic(e)
	}
	return b
}

// What the tests hold the program against is held against what was worked out apart.
func TestModel(t *testing.T) {
	for _, x := range allApart() {
		wantSum(t, x.what, x.text(), x.sum)
	}
	wantBytes(t, "powers", powers(number(great1)).text(), digits(textOfPowers))
}

func TestToldApart(t *testing.T) {
	l := allApart()
	together(len(l), func(i int) {
		x := l[i]
		p := x.proof()
		wantSum(t, x.what, p.Bytes(), x.sum)
		back := got(t, x.what, p.Bytes())
		wantSame(t, x.what+", read", back, p)
		wantSum(t, x.what+", told again", back.Bytes(), x.sum)
	})
}

// The one whose bytes stand here is read, and told again.
func TestReadApart(t *testing.T) {
	b := digits(textOfPowers)
	want(t, "powers", got(t, "powers", b), powers(number(great1)))
	wantBytes(t, "powers", powers(number(great1)).proof().Bytes(), b)
}
